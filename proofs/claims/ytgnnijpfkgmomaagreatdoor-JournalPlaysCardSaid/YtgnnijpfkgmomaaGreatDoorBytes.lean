/-
  Bytes that a call owns: a row of u8 cells, of whose frozen stretch no cell is one of the row's (so also what a conversion of a text leaves). What append and the conversions make of it. Of no program.
-/
import Derived.Test.YtgnnijpfkgmomaaGreatDoorBase
import Derived.Lib.ConvBytes
import Derived.Lib.FrozenHead
namespace Go.Proofs.YtgnnijpfkgmomaaGreatDoor
open Go.RowKit
set_option linter.unusedVariables false

/-- no cell of the row is frozen -/
def Free (size : Nat) (fz : Nat × Nat) : Prop := fz.2 ≤ fz.1 ∨ size ≤ fz.1
theorem Free.not {size : Nat} {fz : Nat × Nat} (h : Free size fz) {j : Nat} (hj : j < size) : (decide (fz.1 ≤ j) && decide (j < fz.2)) = false := by
  unfold Free at h
  simp only [Bool.and_eq_false_iff, decide_eq_false_iff_not]
  omega

/-- the value owns the bytes -/
def OwnB (w : World) (base : Nat) (e : TypeId) (v : Value) (l : List UInt8) : Prop :=
  (v = .slice none 0 0 ∧ l = []) ∨
  ∃ g cap cur fz, v = .slice (some ⟨g, 0, none⟩) l.length cap ∧ base ≤ g ∧ w.heap[g]? = some (.cells cur e fz) ∧ Free cur.size fz ∧ l.length ≤ cap ∧ cap ≤ maxLen ∧ cur.size = cap ∧ cur.toList.take l.length = bCells l

theorem OwnB.of_owns {w : World} {base n : Nat} {e : TypeId} {v : Value} {l : List UInt8} (h : w.ownsRow base e 1 v n (bCells l)) : OwnB w base e v l := by
  have hl : l.length = n := by simpa [bCells_length] using h.1
  rcases h.2 with ⟨rfl, hn⟩ | ⟨g, cap, cur, rfl, hb, hg, hnc, hcm, hcs, ht⟩
  · exact .inl ⟨rfl, List.eq_nil_of_length_eq_zero (by omega)⟩
  · exact .inr ⟨g, cap, cur, (0, 0), by rw [hl], hb, hg, .inl (Nat.le_refl _), by omega, hcm, by simpa using hcs, by rw [hl]; simpa using ht⟩
theorem OwnB.lt {w : World} {base : Nat} {e : TypeId} {v : Value} {l : List UInt8} (h : OwnB w base e v l) : ∀ k, v.ownBlock = some k → base ≤ k ∧ k < w.heap.size := by
  intro k hk
  rcases h with ⟨rfl, _⟩ | ⟨g, cap, cur, fz, rfl, hb, hg, _⟩
  · simp [Value.ownBlock] at hk
  · simp [Value.ownBlock] at hk
    subst hk
    exact ⟨hb, (Array.getElem?_eq_some_iff.1 hg).1⟩
theorem OwnB.kept {w w' : World} {base : Nat} {e : TypeId} {v : Value} {l : List UInt8} (h : OwnB w base e v l) (hk : ∀ k, v.ownBlock = some k → w'.heap[k]? = w.heap[k]?) : OwnB w' base e v l := by
  rcases h with hn | ⟨g, cap, cur, fz, rfl, hb, hg, r⟩
  · exact .inl hn
  · exact .inr ⟨g, cap, cur, fz, rfl, hb, by rw [hk g rfl]; exact hg, r⟩
theorem OwnB.below {w w' : World} {base : Nat} {e : TypeId} {v : Value} {l : List UInt8} (h : OwnB w base e v l) (hb : Below w.heap.size w w') : OwnB w' base e v l :=
  h.kept fun k hk => hb.block k (h.lt k hk).2
theorem OwnB.mono {w : World} {base base' : Nat} {e : TypeId} {v : Value} {l : List UInt8} (h : OwnB w base e v l) (hb : base' ≤ base) : OwnB w base' e v l := by
  rcases h with hn | ⟨g, cap, cur, fz, rfl, hg, r⟩
  · exact .inl hn
  · exact .inr ⟨g, cap, cur, fz, rfl, by omega, r⟩
theorem OwnB.alloc {w : World} {base : Nat} {e : TypeId} {v : Value} {l : List UInt8} (h : OwnB w base e v l) (o : Obj) : OwnB (w.alloc o) base e v l :=
  h.below ((Below.refl _ _).alloc (Nat.le_refl _) o)
theorem OwnB.cells {w : World} {base : Nat} {e : TypeId} {v : Value} {l : List UInt8} (h : OwnB w base e v l) {g : Nat} (hg : v.ownBlock = some g) (j : Nat) (hj : j < l.length) : w.cell? ⟨g, j, none⟩ = some (.int .u8 l[j].toNat) := by
  rcases h with ⟨rfl, _⟩ | ⟨g', cap, cur, fz, rfl, _, hgg, _, _, _, _, ht⟩
  · simp [Value.ownBlock] at hg
  · simp [Value.ownBlock] at hg
    subst hg
    rw [cell_of_row w g' j cur e fz hgg]
    have : (cur.toList.take l.length)[j]? = some (.int .u8 l[j].toNat) := by rw [ht]; simp [bCells, hj]
    rw [List.getElem?_take, if_pos hj] at this
    simpa using this
/-- 'string(b)' -/
theorem OwnB.string {P : Program} {w : World} {base : Nat} {src dst e : TypeId} {v : Value} {l : List UInt8} (hs : P.underlying src = some (.slice e)) (he : P.underlying e = some (.int .u8)) (hd : P.underlying dst = some .string)
    (h : OwnB w base e v l) : (convert src dst v).run P w = .ok (.string ⟨l.toArray⟩) w := by
  have hc := h
  rcases h with ⟨rfl, rfl⟩ | ⟨g, cap, cur, fz, rfl, hb, hg, hf, hnc, hcm, hcs, ht⟩
  · exact run_convert_bytes_nil w src e hs he 0 0 dst hd
  · refine run_convert_bytes_back w src dst e ⟨g, 0, none⟩ cap l hs he hd fun j hj => ?_
    have ha : (⟨g, 0, none⟩ : Addr).add j = ⟨g, j, none⟩ := by unfold Addr.add; split <;> simp_all
    rw [ha]
    exact hc.cells (g := g) rfl j hj
/-- '[]byte(s)' -/
theorem conv_bytes {P : Program} (w : World) {src dst e : TypeId} (hs : P.underlying src = some .string) (hd : P.underlying dst = some (.slice e)) (he : P.underlying e = some (.int .u8)) (l : List UInt8) (hl : l.length ≤ maxLen) :
    ∃ v w1, (convert src dst (.string ⟨l.toArray⟩)).run P w = .ok v w1 ∧ OwnB w1 w.heap.size e v l ∧ Below w.heap.size w w1 := by
  have hsz : (⟨l.toArray⟩ : ByteArray).size = l.length := by simp [ByteArray.size]
  refine ⟨_, _, Lib.run_convert_string_bytes w src dst e ⟨l.toArray⟩ hs hd he, ?_, ?_⟩
  · have hge : l.length ≤ grownCap w l.length 0 e := grownCap_ge w _ _ _
    have hcz : (Lib.bytesCells w e ⟨l.toArray⟩).size = grownCap w l.length 0 e := by
      simp [Lib.bytesCells, hsz]; omega
    refine .inr ⟨w.heap.size, _, _, _, by rw [hsz], Nat.le_refl _, Lib.bytesWorld_at_new w e _, .inr (Nat.le_refl _), hge, grownCap_le_maxLen w _ _ _ hl, hcz, ?_⟩
    simp [Lib.bytesCells, bCells]
  · refine ⟨?_, ?_, ?_, by rw [Lib.bytesWorld_size]; omega, fun k hk => Lib.bytesWorld_at_old w e _ k hk⟩
    all_goals (unfold Lib.bytesWorld World.freeze; split <;> rfl)

/-- cells stored one behind the other, none of them frozen -/
theorem run_storeCells_free (P : Program) (g : Nat) (t : TypeId) (fz : Nat × Nat) : ∀ (vs : List Value) (o i : Nat) (cur : Array Value) (w : World), w.heap[g]? = some (.cells cur t fz) → Free cur.size fz → o + i + vs.length ≤ cur.size → (∀ v ∈ vs, v.oneCell' = true) →
    (storeCells ⟨g, o, none⟩ vs i).run P w = .ok () (w.setRow g (cur.toList.take (o + i) ++ vs ++ cur.toList.drop (o + i + vs.length)).toArray) := by
  intro vs
  induction vs with
  | nil =>
    intro o i cur w hg _ _ _
    simp only [storeCells, List.append_nil, List.length_nil, Nat.add_zero, List.take_append_drop, Array.toArray_toList]
    rw [setRow_self w g cur t fz hg]
    rfl
  | cons v rest ih =>
    intro o i cur w hg hf hl h1
    have hi : o + i < cur.size := by simp at hl; omega
    have ha : (⟨g, o, none⟩ : Addr).add i = ⟨g, o + i, none⟩ := by unfold Addr.add; split <;> simp_all
    have hc : w.cell? ⟨g, o + i, none⟩ = some cur[o + i] := by simp [World.cell?, hg, hi]
    have hfr : w.frozen? ⟨g, o + i, none⟩ = false := by
      have := hf.not hi
      obtain ⟨lo, hi'⟩ := fz
      simpa [World.frozen?, hg] using this
    have hst : (store ((⟨g, o, none⟩ : Addr).add i) v).run P w = .ok () (w.setRow g (cur.setIfInBounds (o + i) v)) := by
      rw [ha, run_store P w _ v _ (h1 v (by simp)), hc]
      simp [hfr, setCell_eq_setRow w g (o + i) cur t fz v hg]
    have hr := ih o (i + 1) (cur.setIfInBounds (o + i) v) (w.setRow g (cur.setIfInBounds (o + i) v)) (setRow_heap w g cur _ t _ hg) (by simpa using hf) (by simp at hl ⊢; omega) (fun x hx => h1 x (by simp [hx]))
    simp only [storeCells, Sem.run_bind, hst, Result.andThen_ok, hr, setRow_setRow]
    congr 3
    have e := list_seg_step cur.toList (o + i) v rest (by simp at hl ⊢; omega)
    simpa [Array.toList_setIfInBounds, Nat.add_assoc] using e

theorem bCells_oneCell (l : List UInt8) : ∀ u ∈ bCells l, u.oneCell' = true := by
  intro u hu
  simp [bCells] at hu
  obtain ⟨c, _, rfl⟩ := hu
  rfl

/-- what append makes of it, whatever the bytes come from: where there is room, in the row; else a new one -/
theorem own_room {w : World} {base : Nat} {e : TypeId} {g cap : Nat} {l : List UInt8} {cur : Array Value} {fz : Nat × Nat} (hb : base ≤ g) (hg : w.heap[g]? = some (.cells cur e fz)) (hf : Free cur.size fz) (hcm : cap ≤ maxLen) (hcs : cur.size = cap)
    (ht : cur.toList.take l.length = bCells l) (m : List UInt8) (hr : l.length + m.length ≤ cap) :
    OwnB (w.setRow g (cur.toList.take l.length ++ bCells m ++ cur.toList.drop (l.length + m.length)).toArray) base e (.slice (some ⟨g, 0, none⟩) (l.length + m.length) cap) (l ++ m) := by
  refine .inr ⟨g, cap, _, fz, by simp, hb, setRow_heap w g cur _ e _ hg, ?_, by simpa using hr, hcm, ?_, ?_⟩
  · have : (cur.toList.take l.length ++ bCells m ++ cur.toList.drop (l.length + m.length)).toArray.size = cur.size := by
      simp [bCells_length]; omega
    rw [this]; exact hf
  · simp [bCells_length]; omega
  · rw [ht, bCells_append]
    simp only [List.length_append]
    rw [← List.length_append, ← bCells_length (l ++ m)]
    exact List.take_left
theorem own_grown {w : World} {base : Nat} {e : TypeId} (hbase : base ≤ w.heap.size) (l m : List UInt8) (old : Nat) (h63 : l.length + m.length ≤ maxLen) :
    OwnB (w.drew.alloc (.cells ((bCells l).toArray ++ (bCells m).toArray ++ Builtin.zeroCells #[.int .u8 0] (grownCap w (l.length + m.length) old e - (l.length + m.length))) e)) base e
      (.slice (some ⟨w.heap.size, 0, none⟩) (l.length + m.length) (grownCap w (l.length + m.length) old e)) (l ++ m) := by
  have hge := grownCap_ge w (l.length + m.length) old e
  refine .inr ⟨w.heap.size, grownCap w (l.length + m.length) old e, _, (0, 0), by simp, hbase, heap_alloc_new w.drew _, .inl (Nat.le_refl _), by simpa using hge, grownCap_le_maxLen w _ _ _ h63, ?_, ?_⟩
  · simp only [Array.size_append, List.size_toArray, size_zeroCells, bCells_length]
    simp; omega
  · simp only [Array.toList_append, bCells_append, ← bCells_length (l ++ m)]
    exact List.take_left
section
variable {P : Program} (w : World)
theorem run_append_own_str (base : Nat) (t u ty e : TypeId) (i : TypeInfo) (ht : P.underlying t = some (.slice e)) (hu : P.underlying u = some .string) (hi : P.info? e = some i) (hz : i.zero = some (.int .u8 0)) (hsize : i.size = 1) (hby : i.bytes = 1)
    (v : Value) (l m : List UInt8) (hown : OwnB w base e v l) (h63 : l.length + m.length ≤ 140737488355328) (hbase : base ≤ w.heap.size) :
    ∃ v' w', (Builtin.append_ #[t, u] ty #[v, .string ⟨m.toArray⟩]).run P w = .ok v' w' ∧ OwnB w' base e v' (l ++ m) ∧ w.grownBy w' v.ownBlock := by
  have hsz : (⟨m.toArray⟩ : ByteArray).size = m.length := by simp [ByteArray.size]
  have hsc : Lib.strCells ⟨m.toArray⟩ = bCells m := rfl
  have hmax : l.length + m.length ≤ maxLen := by unfold maxLen; omega
  rcases hown with ⟨rfl, rfl⟩ | ⟨g, cap, cur, fz, rfl, hbg, hg, hf, hnc, hcm, hcs, htake⟩
  · obtain ⟨v', w', h1, h2, h3, _⟩ := Lib.run_append_own_string (P := P) w base t u ty e i ht hu hi hz hsize hby (.slice none 0 0) 0 [] (World.ownsRow_nil w base e 1) ⟨m.toArray⟩ (by rw [hsz]; simpa using hmax) (by rw [hsz]; simpa using h63) hbase
    exact ⟨v', w', h1, OwnB.of_owns (by rw [hsc] at h2; simpa using h2), h3⟩
  · by_cases hroom : l.length + m.length ≤ cap
    · have hfc := Lib.run_firstCells_string (P := P) w 1 ⟨m.toArray⟩
      have hst := run_storeCells_free P g e fz (bCells m) l.length 0 cur w hg hf (by rw [bCells_length]; omega) (bCells_oneCell m)
      simp only [Nat.add_zero, bCells_length] at hst
      rw [hsz] at hfc
      refine ⟨_, _, ?_, own_room hbg hg hf hcm hcs htake m hroom, ⟨rfl, rfl, rfl, by simp, fun k _ hk => setRow_other w g k _ (fun e => hk (by simp [Value.ownBlock, e]))⟩⟩
      rw [hsc] at hfc
      simp [Builtin.append_, run_underlying ht, run_underlying hu, sizeOf, typeInfo, hi, hsize, Builtin.lenOf, hroom, hfc, Addr.add_lit, hst, hsz]
    · have holds : ∀ j u, (bCells l)[j]? = some u → w.cell? ((⟨g, 0, none⟩ : Addr).add j) = some u := by
        intro j u hju
        have hj : j < l.length := by have := (List.getElem?_eq_some_iff.1 hju).1; simpa [bCells] using this
        have ha : (⟨g, 0, none⟩ : Addr).add j = ⟨g, j, none⟩ := by unfold Addr.add; split <;> simp_all
        rw [ha, OwnB.cells (v := .slice (some ⟨g, 0, none⟩) l.length cap) (.inr ⟨g, cap, cur, fz, rfl, hbg, hg, hf, hnc, hcm, hcs, htake⟩) (g := g) rfl j hj]
        simp [bCells, hj] at hju
        simpa using hju
      have hr := Lib.run_append_grow_string (P := P) w t u ty e i (.int .u8 0) ht hu hi hz ⟨g, 0, none⟩ l.length cap (bCells l) (by rw [hsize, bCells_length]; omega) holds ⟨m.toArray⟩ (by rw [hsz]; omega) (by rw [hsz]; omega) (by rw [hby]; exact growslice_fits (by rw [hsz]; omega) (by rw [hsz]; omega))
      rw [hsz, hsc] at hr
      exact ⟨_, _, hr, own_grown hbase l m cap hmax, ⟨rfl, rfl, rfl, by simp, fun k hk _ => Below.heap_alloc w.drew _ k hk⟩⟩
/-- append(b, s...) in the walk -/
theorem wp_append_str {ops : Array Oper} {rest : List Oper} {o : Oper} {a : Act} {Q : Exit → Act → World → Prop} (hgd : o.guard = none) (sl x : Operand) (t u : TypeId)
    (ho : o.op = .call { callee := .builtin .append, args := #[sl, x], argTypes := #[t, u] })
    (base : Nat) (e : TypeId) (i : TypeInfo) (ht : P.underlying t = some (.slice e)) (hu : P.underlying u = some .string) (hi : P.info? e = some i) (hz : i.zero = some (.int .u8 0)) (hsize : i.size = 1) (hby : i.bytes = 1)
    (v : Value) (l : List UInt8) (hs : a.eval sl = v) (hown : OwnB w base e v l) (m : List UInt8) (hx : a.eval x = .string ⟨m.toArray⟩) (h63 : l.length + m.length ≤ 140737488355328) (hbase : base ≤ w.heap.size)
    (h : ∀ v' w', OwnB w' base e v' (l ++ m) → w.grownBy w' v.ownBlock → wpList P ops Q rest (a.put o.dst v') w') : wpList P ops Q (o :: rest) a w := by
  refine wpList_plain hgd fun K hK => ?_
  obtain ⟨v', w', hr, h2, h3⟩ := run_append_own_str (P := P) w base t u o.type e i ht hu hi hz hsize hby v l m hown h63 hbase
  unfold Oper.wp execOp
  simp only [ho, resolve, invoke, builtin, Sem.run_bind, Sem.run_pure, Result.andThen_ok, List.map_toArray, List.map_cons, List.map_nil, hs, hx, hr]
  exact hK _ _ (h v' w' h2 h3)
end
end Go.Proofs.YtgnnijpfkgmomaaGreatDoor
