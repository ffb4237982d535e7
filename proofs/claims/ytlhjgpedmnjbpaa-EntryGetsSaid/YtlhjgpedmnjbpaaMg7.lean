/-
  Several texts, laid together.
-/
import Derived.Test.YtlhjgpedmnjbpaaMg6
import Derived.Deep.RegionWith
import Derived.Deep.RegionHeld3
import Derived.Test.YtlhjgpedmnjbpaaMg1
import Derived.Lib.ConvBytes
import Derived.Lib.FrozenHead
/-
  The contracts of num's Word, Text, Bool, From, and of the document's own Put, High, Word, Text, Bool: the bytes that they make.
-/



namespace Go.Proofs.Ytlhjgpedmnjbpaa
open Go.RowKit
set_option linter.unusedVariables false

theorem bcell {W w1 : World} (hb : Below W.heap.size W w1) : (∀ b o, b < W.heap.size → w1.cell? ⟨b, o, none⟩ = W.cell? ⟨b, o, none⟩) ∧ (∀ b o, b < W.heap.size → w1.frozen? ⟨b, o, none⟩ = W.frozen? ⟨b, o, none⟩) :=
  ⟨fun b o h => hb.cell (p := ⟨b, o, none⟩) h, fun b o h => hb.frozen (p := ⟨b, o, none⟩) h⟩

/-- a truth's letter -/
def boolB (b : Bool) : List UInt8 := if b then [121] else [110]
theorem from_any (s : ByteArray) (w : World) :
    Calls Try.prog 15 #[.string s] w fun e w' => e = .returned (.pointer (some ⟨w.heap.size, 0, none⟩)) ∧ w' = w.alloc (.cells #[.string s, .int .i64 0] 134) := by
  go_enter Try.func15, Try.ntmps15
  go_wp2
  go_ret
  exact ⟨rfl, rfl⟩
theorem wrap_u64_in (x : Int) (h : U64 x) : IntKind.u64.wrap x = x := by
  unfold U64 at h
  simp [IntKind.wrap, IntKind.signed, IntKind.bits]
  omega
theorem wrap_u8_in (x : Int) (h0 : 0 ≤ x) (h1 : x ≤ 255) : IntKind.u8.wrap x = x := by
  simp [IntKind.wrap, IntKind.signed, IntKind.bits]
  omega
set_option maxHeartbeats 400000 in
theorem high_ind (N : Nat) : ∀ (x : Int) (w : World), U64 x → x.toNat < N →
    Calls Try.prog 130 #[.int .u64 x] w fun e w' => e = .returned (.string ⟨(hiN x.toNat).toArray⟩) ∧ Below w.heap.size w w' := by
  induction N with
  | zero => intro x w _ h; omega
  | succ N ih =>
    intro x w hx hN
    by_cases h0 : x = 0
    · subst h0
      clear ih hx hN
      go_enter Try.func130, Try.ntmps130
      go_wp2
      go_ret
      exact ⟨ret_str (by simp [hiN_zero]), Below.refl _ _⟩
    · have hb0 : (x == 0) = false := by simp; omega
      have hx0 : 0 ≤ x := hx.1
      have ih2 : ∀ (w : World), Calls Try.prog 130 #[.int .u64 (x / 256)] w fun e w' => e = .returned (.string ⟨(hiN (x / 256).toNat).toArray⟩) ∧ Below w.heap.size w w' :=
        fun w => ih (x / 256) w (by unfold U64 at *; omega) (by omega)
      have H := Lib.hid ih2
      have hcv : ∀ w : World, (convert 155 9 (.slice (some ⟨w.heap.size, 0, none⟩) 1 1)).run Try.prog (w.alloc (.cells #[.int .u8 (x % 256)] 5)) =
          .ok (.string ⟨#[UInt8.ofNat x.toNat]⟩) (w.alloc (.cells #[.int .u8 (x % 256)] 5)) :=
        lit_string Try.underlying155 Try.underlying5 Try.underlying9 [UInt8.ofNat x.toNat] _ _ _ rfl (by
          obtain ⟨M, rfl⟩ := Int.eq_ofNat_of_zero_le hx0
          simp [bCells])
      have hfin : hiN x.toNat = hiN (x / 256).toNat ++ [UInt8.ofNat x.toNat] := by
        rw [hiN_step _ (by omega) (by unfold U64 at hx; omega)]
        congr 2
        omega
      have HF := Lib.hid hfin
      have hlen : (hiN (x / 256).toNat).length + 1 ≤ 9223372036854775807 := by
        rw [hiN_length]
        have := needN_le (x / 256).toNat (by unfold U64 at hx; omega)
        omega
      have hq : IntKind.u64.wrap (x.tdiv 256) = x / 256 := by
        rw [Int.tdiv_eq_ediv_of_nonneg hx0]
        exact wrap_u64_in _ (by unfold U64 at *; omega)
      have hr : x.tmod 256 = x % 256 := Int.tmod_eq_emod_of_nonneg hx0
      have hr8 : IntKind.u8.wrap (x % 256) = x % 256 := wrap_u8_in _ (by omega) (by omega)
      clear h0 ih ih2 hN hfin hx
      go_enter Try.func130, Try.ntmps130
      go_wp2
      have hcvd : ∀ w : World, (convert 155 9 (.slice (some ⟨w.heap.size, 0, none⟩) 1 1)).run Try.prog (w.alloc (.cells #[.int .u8 (x % 256)] 5)).drew =
          .ok (.string ⟨#[UInt8.ofNat x.toNat]⟩) (w.alloc (.cells #[.int .u8 (x % 256)] 5)).drew := fun w => hcv w.drew
      have hcv3 : ∀ (W w1 : World), (∀ b o, b < W.heap.size → w1.cell? ⟨b, o, none⟩ = W.cell? ⟨b, o, none⟩) → w.heap.size < W.heap.size → W.cell? ⟨w.heap.size, 0, none⟩ = some (.int .u8 (x % 256)) →
          (convert 155 9 (.slice (some ⟨w.heap.size, 0, none⟩) 1 1)).run Try.prog w1 = .ok (.string ⟨#[UInt8.ofNat x.toNat]⟩) w1 := fun W w1 h1 h2 h3 =>
        one_string Try.underlying155 Try.underlying5 Try.underlying9 (UInt8.ofNat x.toNat) (x % 256) (by simp; omega) w1 w.heap.size (by rw [h1 _ _ h2]; exact h3)
      have H3 := Lib.hid hcv3
      clear hcv3
      go_region_with (go_at_call 130; refine (H.out _).mono ?_; rintro e w' ⟨rfl, hb⟩; obtain ⟨hc, hf⟩ := bcell hb; have hcv2 := H3.out _ w' hc)
      all_goals go_wp2
      all_goals go_ret
      all_goals refine ⟨ret_str (by rw [HF.out]; exact str_append _ [_]), ?_⟩
      · exact (((Below.refl _ _).drew.trans (hb.mono (by simp))).alloc (by have := hb.size; simpa using this) _)
      all_goals exact ((Below.refl _ _).alloc (Nat.le_refl _) _).drew.trans (hb.mono (by simp))
theorem high_any (x : Int) (w : World) (hx : U64 x) :
    Calls Try.prog 130 #[.int .u64 x] w fun e w' => e = .returned (.string ⟨(hiN x.toNat).toArray⟩) ∧ Below w.heap.size w w' :=
  high_ind (x.toNat + 1) x w hx (by omega)
end Go.Proofs.Ytlhjgpedmnjbpaa
/-
  Bytes that a call owns: a row of u8 cells, of whose frozen stretch no cell is one of the row's (so also what a conversion of a text leaves). What append and the conversions make of it. Of no program.
-/



namespace Go.Proofs.Ytlhjgpedmnjbpaa
open Go.RowKit
set_option linter.unusedVariables false

/-- no cell of the row is frozen -/
def Free (size : Nat) (fz : Nat × Nat) : Prop := fz.2 ≤ fz.1 ∨ size ≤ fz.1
theorem Free.not {size : Nat} {fz : Nat × Nat} (h : Free size fz) {j : Nat} (hj : j < size) : (decide (fz.1 ≤ j) && decide (j < fz.2)) = false := by
  unfold Free at h
  simp only [Bool.and_eq_false_iff, decide_eq_false_iff_not]
  omega

/-- the value owns the bytes -/
def OwnB (w : World) (base : Nat) (e : TypeId) (v : Value) (l : List UInt8) : Prop :=
  (v = .slice none 0 0 ∧ l = []) ∨
  ∃ g cap cur fz, v = .slice (some ⟨g, 0, none⟩) l.length cap ∧ base ≤ g ∧ w.heap[g]? = some (.cells cur e fz) ∧ Free cur.size fz ∧ l.length ≤ cap ∧ cap ≤ maxLen ∧ cur.size = cap ∧ cur.toList.take l.length = bCells l

theorem OwnB.of_owns {w : World} {base n : Nat} {e : TypeId} {v : Value} {l : List UInt8} (h : w.ownsRow base e 1 v n (bCells l)) : OwnB w base e v l := by
  have hl : l.length = n := by simpa [bCells_length] using h.1
  rcases h.2 with ⟨rfl, hn⟩ | ⟨g, cap, cur, rfl, hb, hg, hnc, hcm, hcs, ht⟩
  · exact .inl ⟨rfl, List.eq_nil_of_length_eq_zero (by omega)⟩
  · exact .inr ⟨g, cap, cur, (0, 0), by rw [hl], hb, hg, .inl (Nat.le_refl _), by omega, hcm, by simpa using hcs, by rw [hl]; simpa using ht⟩
theorem OwnB.lt {w : World} {base : Nat} {e : TypeId} {v : Value} {l : List UInt8} (h : OwnB w base e v l) : ∀ k, v.ownBlock = some k → base ≤ k ∧ k < w.heap.size := by
  intro k hk
  rcases h with ⟨rfl, _⟩ | ⟨g, cap, cur, fz, rfl, hb, hg, _⟩
  · simp [Value.ownBlock] at hk
  · simp [Value.ownBlock] at hk
    subst hk
    exact ⟨hb, (Array.getElem?_eq_some_iff.1 hg).1⟩
theorem OwnB.kept {w w' : World} {base : Nat} {e : TypeId} {v : Value} {l : List UInt8} (h : OwnB w base e v l) (hk : ∀ k, v.ownBlock = some k → w'.heap[k]? = w.heap[k]?) : OwnB w' base e v l := by
  rcases h with hn | ⟨g, cap, cur, fz, rfl, hb, hg, r⟩
  · exact .inl hn
  · exact .inr ⟨g, cap, cur, fz, rfl, hb, by rw [hk g rfl]; exact hg, r⟩
theorem OwnB.below {w w' : World} {base : Nat} {e : TypeId} {v : Value} {l : List UInt8} (h : OwnB w base e v l) (hb : Below w.heap.size w w') : OwnB w' base e v l :=
  h.kept fun k hk => hb.block k (h.lt k hk).2
theorem OwnB.mono {w : World} {base base' : Nat} {e : TypeId} {v : Value} {l : List UInt8} (h : OwnB w base e v l) (hb : base' ≤ base) : OwnB w base' e v l := by
  rcases h with hn | ⟨g, cap, cur, fz, rfl, hg, r⟩
  · exact .inl hn
  · exact .inr ⟨g, cap, cur, fz, rfl, by omega, r⟩
theorem OwnB.alloc {w : World} {base : Nat} {e : TypeId} {v : Value} {l : List UInt8} (h : OwnB w base e v l) (o : Obj) : OwnB (w.alloc o) base e v l :=
  h.below ((Below.refl _ _).alloc (Nat.le_refl _) o)
theorem OwnB.cells {w : World} {base : Nat} {e : TypeId} {v : Value} {l : List UInt8} (h : OwnB w base e v l) {g : Nat} (hg : v.ownBlock = some g) (j : Nat) (hj : j < l.length) : w.cell? ⟨g, j, none⟩ = some (.int .u8 l[j].toNat) := by
  rcases h with ⟨rfl, _⟩ | ⟨g', cap, cur, fz, rfl, _, hgg, _, _, _, _, ht⟩
  · simp [Value.ownBlock] at hg
  · simp [Value.ownBlock] at hg
    subst hg
    rw [cell_of_row w g' j cur e fz hgg]
    have : (cur.toList.take l.length)[j]? = some (.int .u8 l[j].toNat) := by rw [ht]; simp [bCells, hj]
    rw [List.getElem?_take, if_pos hj] at this
    simpa using this
/-- 'string(b)' -/
theorem OwnB.string {P : Program} {w : World} {base : Nat} {src dst e : TypeId} {v : Value} {l : List UInt8} (hs : P.underlying src = some (.slice e)) (he : P.underlying e = some (.int .u8)) (hd : P.underlying dst = some .string)
    (h : OwnB w base e v l) : (convert src dst v).run P w = .ok (.string ⟨l.toArray⟩) w := by
  have hc := h
  rcases h with ⟨rfl, rfl⟩ | ⟨g, cap, cur, fz, rfl, hb, hg, hf, hnc, hcm, hcs, ht⟩
  · exact run_convert_bytes_nil w src e hs he 0 0 dst hd
  · refine run_convert_bytes_back w src dst e ⟨g, 0, none⟩ cap l hs he hd fun j hj => ?_
    have ha : (⟨g, 0, none⟩ : Addr).add j = ⟨g, j, none⟩ := by unfold Addr.add; split <;> simp_all
    rw [ha]
    exact hc.cells (g := g) rfl j hj
/-- '[]byte(s)' -/
theorem conv_bytes {P : Program} (w : World) {src dst e : TypeId} (hs : P.underlying src = some .string) (hd : P.underlying dst = some (.slice e)) (he : P.underlying e = some (.int .u8)) (l : List UInt8) (hl : l.length ≤ maxLen) :
    ∃ v w1, (convert src dst (.string ⟨l.toArray⟩)).run P w = .ok v w1 ∧ OwnB w1 w.heap.size e v l ∧ Below w.heap.size w w1 := by
  have hsz : (⟨l.toArray⟩ : ByteArray).size = l.length := by simp [ByteArray.size]
  refine ⟨_, _, Lib.run_convert_string_bytes w src dst e ⟨l.toArray⟩ hs hd he, ?_, ?_⟩
  · have hge : l.length ≤ grownCap w l.length 0 e := grownCap_ge w _ _ _
    have hcz : (Lib.bytesCells w e ⟨l.toArray⟩).size = grownCap w l.length 0 e := by
      simp [Lib.bytesCells, hsz]; omega
    refine .inr ⟨w.heap.size, _, _, _, by rw [hsz], Nat.le_refl _, Lib.bytesWorld_at_new w e _, .inr (Nat.le_refl _), hge, grownCap_le_maxLen w _ _ _ hl, hcz, ?_⟩
    simp [Lib.bytesCells, bCells]
  · refine ⟨?_, ?_, ?_, by rw [Lib.bytesWorld_size]; omega, fun k hk => Lib.bytesWorld_at_old w e _ k hk⟩
    all_goals (unfold Lib.bytesWorld World.freeze; split <;> rfl)

/-- cells stored one behind the other, none of them frozen -/
theorem run_storeCells_free (P : Program) (g : Nat) (t : TypeId) (fz : Nat × Nat) : ∀ (vs : List Value) (o i : Nat) (cur : Array Value) (w : World), w.heap[g]? = some (.cells cur t fz) → Free cur.size fz → o + i + vs.length ≤ cur.size → (∀ v ∈ vs, v.oneCell' = true) →
    (storeCells ⟨g, o, none⟩ vs i).run P w = .ok () (w.setRow g (cur.toList.take (o + i) ++ vs ++ cur.toList.drop (o + i + vs.length)).toArray) := by
  intro vs
  induction vs with
  | nil =>
    intro o i cur w hg _ _ _
    simp only [storeCells, List.append_nil, List.length_nil, Nat.add_zero, List.take_append_drop, Array.toArray_toList]
    rw [setRow_self w g cur t fz hg]
    rfl
  | cons v rest ih =>
    intro o i cur w hg hf hl h1
    have hi : o + i < cur.size := by simp at hl; omega
    have ha : (⟨g, o, none⟩ : Addr).add i = ⟨g, o + i, none⟩ := by unfold Addr.add; split <;> simp_all
    have hc : w.cell? ⟨g, o + i, none⟩ = some cur[o + i] := by simp [World.cell?, hg, hi]
    have hfr : w.frozen? ⟨g, o + i, none⟩ = false := by
      have := hf.not hi
      obtain ⟨lo, hi'⟩ := fz
      simpa [World.frozen?, hg] using this
    have hst : (store ((⟨g, o, none⟩ : Addr).add i) v).run P w = .ok () (w.setRow g (cur.setIfInBounds (o + i) v)) := by
      rw [ha, run_store P w _ v _ (h1 v (by simp)), hc]
      simp [hfr, setCell_eq_setRow w g (o + i) cur t fz v hg]
    have hr := ih o (i + 1) (cur.setIfInBounds (o + i) v) (w.setRow g (cur.setIfInBounds (o + i) v)) (setRow_heap w g cur _ t _ hg) (by simpa using hf) (by simp at hl ⊢; omega) (fun x hx => h1 x (by simp [hx]))
    simp only [storeCells, Sem.run_bind, hst, Result.andThen_ok, hr, setRow_setRow]
    congr 3
    have e := list_seg_step cur.toList (o + i) v rest (by simp at hl ⊢; omega)
    simpa [Array.toList_setIfInBounds, Nat.add_assoc] using e

theorem bCells_oneCell (l : List UInt8) : ∀ u ∈ bCells l, u.oneCell' = true := by
  intro u hu
  simp [bCells] at hu
  obtain ⟨c, _, rfl⟩ := hu
  rfl

/-- what append makes of it, whatever the bytes come from: where there is room, in the row; else a new one -/
theorem own_room {w : World} {base : Nat} {e : TypeId} {g cap : Nat} {l : List UInt8} {cur : Array Value} {fz : Nat × Nat} (hb : base ≤ g) (hg : w.heap[g]? = some (.cells cur e fz)) (hf : Free cur.size fz) (hcm : cap ≤ maxLen) (hcs : cur.size = cap)
    (ht : cur.toList.take l.length = bCells l) (m : List UInt8) (hr : l.length + m.length ≤ cap) :
    OwnB (w.setRow g (cur.toList.take l.length ++ bCells m ++ cur.toList.drop (l.length + m.length)).toArray) base e (.slice (some ⟨g, 0, none⟩) (l.length + m.length) cap) (l ++ m) := by
  refine .inr ⟨g, cap, _, fz, by simp, hb, setRow_heap w g cur _ e _ hg, ?_, by simpa using hr, hcm, ?_, ?_⟩
  · have : (cur.toList.take l.length ++ bCells m ++ cur.toList.drop (l.length + m.length)).toArray.size = cur.size := by
      simp [bCells_length]; omega
    rw [this]; exact hf
  · simp [bCells_length]; omega
  · rw [ht, bCells_append]
    simp only [List.length_append]
    rw [← List.length_append, ← bCells_length (l ++ m)]
    exact List.take_left
theorem own_grown {w : World} {base : Nat} {e : TypeId} (hbase : base ≤ w.heap.size) (l m : List UInt8) (old : Nat) (h63 : l.length + m.length ≤ maxLen) :
    OwnB (w.drew.alloc (.cells ((bCells l).toArray ++ (bCells m).toArray ++ Builtin.zeroCells #[.int .u8 0] (grownCap w (l.length + m.length) old e - (l.length + m.length))) e)) base e
      (.slice (some ⟨w.heap.size, 0, none⟩) (l.length + m.length) (grownCap w (l.length + m.length) old e)) (l ++ m) := by
  have hge := grownCap_ge w (l.length + m.length) old e
  refine .inr ⟨w.heap.size, grownCap w (l.length + m.length) old e, _, (0, 0), by simp, hbase, heap_alloc_new w.drew _, .inl (Nat.le_refl _), by simpa using hge, grownCap_le_maxLen w _ _ _ h63, ?_, ?_⟩
  · simp only [Array.size_append, List.size_toArray, size_zeroCells, bCells_length]
    simp; omega
  · simp only [Array.toList_append, bCells_append, ← bCells_length (l ++ m)]
    exact List.take_left
section
variable {P : Program} (w : World)
theorem run_append_own_str (base : Nat) (t u ty e : TypeId) (i : TypeInfo) (ht : P.underlying t = some (.slice e)) (hu : P.underlying u = some .string) (hi : P.info? e = some i) (hz : i.zero = some (.int .u8 0)) (hsize : i.size = 1) (hby : i.bytes = 1)
    (v : Value) (l m : List UInt8) (hown : OwnB w base e v l) (h63 : l.length + m.length ≤ 140737488355328) (hbase : base ≤ w.heap.size) :
    ∃ v' w', (Builtin.append_ #[t, u] ty #[v, .string ⟨m.toArray⟩]).run P w = .ok v' w' ∧ OwnB w' base e v' (l ++ m) ∧ w.grownBy w' v.ownBlock := by
  have hsz : (⟨m.toArray⟩ : ByteArray).size = m.length := by simp [ByteArray.size]
  have hsc : Lib.strCells ⟨m.toArray⟩ = bCells m := rfl
  have hmax : l.length + m.length ≤ maxLen := by unfold maxLen; omega
  rcases hown with ⟨rfl, rfl⟩ | ⟨g, cap, cur, fz, rfl, hbg, hg, hf, hnc, hcm, hcs, htake⟩
  · obtain ⟨v', w', h1, h2, h3, _⟩ := Lib.run_append_own_string (P := P) w base t u ty e i ht hu hi hz hsize hby (.slice none 0 0) 0 [] (World.ownsRow_nil w base e 1) ⟨m.toArray⟩ (by rw [hsz]; simpa using hmax) (by rw [hsz]; simpa using h63) hbase
    exact ⟨v', w', h1, OwnB.of_owns (by rw [hsc] at h2; simpa using h2), h3⟩
  · by_cases hroom : l.length + m.length ≤ cap
    · have hfc := Lib.run_firstCells_string (P := P) w 1 ⟨m.toArray⟩
      have hst := run_storeCells_free P g e fz (bCells m) l.length 0 cur w hg hf (by rw [bCells_length]; omega) (bCells_oneCell m)
      simp only [Nat.add_zero, bCells_length] at hst
      rw [hsz] at hfc
      refine ⟨_, _, ?_, own_room hbg hg hf hcm hcs htake m hroom, ⟨rfl, rfl, rfl, by simp, fun k _ hk => setRow_other w g k _ (fun e => hk (by simp [Value.ownBlock, e]))⟩⟩
      rw [hsc] at hfc
      simp [Builtin.append_, run_underlying ht, run_underlying hu, sizeOf, typeInfo, hi, hsize, Builtin.lenOf, hroom, hfc, Addr.add_lit, hst, hsz]
    · have holds : ∀ j u, (bCells l)[j]? = some u → w.cell? ((⟨g, 0, none⟩ : Addr).add j) = some u := by
        intro j u hju
        have hj : j < l.length := by have := (List.getElem?_eq_some_iff.1 hju).1; simpa [bCells] using this
        have ha : (⟨g, 0, none⟩ : Addr).add j = ⟨g, j, none⟩ := by unfold Addr.add; split <;> simp_all
        rw [ha, OwnB.cells (v := .slice (some ⟨g, 0, none⟩) l.length cap) (.inr ⟨g, cap, cur, fz, rfl, hbg, hg, hf, hnc, hcm, hcs, htake⟩) (g := g) rfl j hj]
        simp [bCells, hj] at hju
        simpa using hju
      have hr := Lib.run_append_grow_string (P := P) w t u ty e i (.int .u8 0) ht hu hi hz ⟨g, 0, none⟩ l.length cap (bCells l) (by rw [hsize, bCells_length]; omega) holds ⟨m.toArray⟩ (by rw [hsz]; omega) (by rw [hsz]; omega) (by rw [hby]; exact growslice_fits (by rw [hsz]; omega) (by rw [hsz]; omega))
      rw [hsz, hsc] at hr
      exact ⟨_, _, hr, own_grown hbase l m cap hmax, ⟨rfl, rfl, rfl, by simp, fun k hk _ => Below.heap_alloc w.drew _ k hk⟩⟩
/-- append(b, s...) in the walk -/
theorem wp_append_str {ops : Array Oper} {rest : List Oper} {o : Oper} {a : Act} {Q : Exit → Act → World → Prop} (hgd : o.guard = none) (sl x : Operand) (t u : TypeId)
    (ho : o.op = .call { callee := .builtin .append, args := #[sl, x], argTypes := #[t, u] })
    (base : Nat) (e : TypeId) (i : TypeInfo) (ht : P.underlying t = some (.slice e)) (hu : P.underlying u = some .string) (hi : P.info? e = some i) (hz : i.zero = some (.int .u8 0)) (hsize : i.size = 1) (hby : i.bytes = 1)
    (v : Value) (l : List UInt8) (hs : a.eval sl = v) (hown : OwnB w base e v l) (m : List UInt8) (hx : a.eval x = .string ⟨m.toArray⟩) (h63 : l.length + m.length ≤ 140737488355328) (hbase : base ≤ w.heap.size)
    (h : ∀ v' w', OwnB w' base e v' (l ++ m) → w.grownBy w' v.ownBlock → wpList P ops Q rest (a.put o.dst v') w') : wpList P ops Q (o :: rest) a w := by
  refine wpList_plain hgd fun K hK => ?_
  obtain ⟨v', w', hr, h2, h3⟩ := run_append_own_str (P := P) w base t u o.type e i ht hu hi hz hsize hby v l m hown h63 hbase
  unfold Oper.wp execOp
  simp only [ho, resolve, invoke, builtin, Sem.run_bind, Sem.run_pure, Result.andThen_ok, List.map_toArray, List.map_cons, List.map_nil, hs, hx, hr]
  exact hK _ _ (h v' w' h2 h3)
end
end Go.Proofs.Ytlhjgpedmnjbpaa
/-
  The contracts of the document's own Put, Word, Text, Bool and List, and of num's List.
-/


namespace Go.Proofs.Ytlhjgpedmnjbpaa
open Go.RowKit
set_option linter.unusedVariables false

theorem refput_any (n : Int) (w : World) (hn : U64 n) :
    Calls Try.prog 78 #[.int .u64 n] w fun e w' => e = .returned (.string ⟨(putN n.toNat).toArray⟩) ∧ Below w.heap.size w w' := by
  have hl : (hiN n.toNat).length ≤ 8 := by rw [hiN_length]; exact needN_le _ (by unfold U64 at hn; omega)
  have hcv : ∀ w : World, (convert 155 9 (.slice (some ⟨w.heap.size, 0, none⟩) 1 1)).run Try.prog (w.alloc (.cells #[.int .u8 ((hiN n.toNat).length : Nat)] 5)) =
      .ok (.string ⟨#[UInt8.ofNat (needN n.toNat)]⟩) (w.alloc (.cells #[.int .u8 ((hiN n.toNat).length : Nat)] 5)) :=
    lit_string Try.underlying155 Try.underlying5 Try.underlying9 [UInt8.ofNat (needN n.toNat)] _ _ _ rfl (by
      rw [hiN_length] at *
      simp [bCells]
      omega)
  go_enter Try.func78, Try.ntmps78
  go_wp2_with (go_at_call 130; refine (high_any _ _ hn).mono ?_; rintro e w' ⟨rfl, hb⟩)
  all_goals go_ret
  all_goals refine ⟨ret_str (str_append [_] _), hb.alloc hb.size _⟩
theorem needN4 (n : Nat) (h : n ≤ 4294967295) : needN n ≤ 4 := by
  have := Lib.bitLen_le n 32 (by omega) (by omega)
  unfold needN; omega
theorem beN_zero_lead (k m n : Nat) (hk : k ≤ m) (h : n < 256 ^ k) : beN m n = List.replicate (m - k) 0 ++ beN k n := by
  induction m with
  | zero =>
    obtain rfl : k = 0 := by omega
    rfl
  | succ m ih =>
    by_cases e : k = m + 1
    · subst e; simp
    · rw [beN, ih (by omega), show m + 1 - k = (m - k) + 1 by omega, List.replicate_succ]
      have : n / 256 ^ m = 0 := Nat.div_eq_of_lt (Nat.lt_of_lt_of_le h (Nat.pow_le_pow_right (by omega) (by omega)))
      rw [this]; rfl
/-- a slice of ints that reads so: nil, or a row of cells -/
def Ints (w : World) (v : Value) (zs : List Int) : Prop :=
  ∃ a cap, v = .slice a zs.length cap ∧ zs.length ≤ 9223372036854775807 ∧ (zs = [] ∨ ∃ b off, a = some ⟨b, off, none⟩ ∧ b < w.heap.size ∧ ∀ j, j < zs.length → w.cell? ⟨b, off + j, none⟩ = some (.int .i64 (zs.getD j 0)))
def listN (l : List Int) : List UInt8 := putN l.length ++ l.flatMap fun x => putN x.toNat
theorem listN_snoc (n : Nat) (l : List Int) (k : Nat) (h : k < l.length) : putN n ++ ((l.take k).flatMap fun x => putN x.toNat) ++ putN (l.getD k 0).toNat = putN n ++ (l.take (k + 1)).flatMap fun x => putN x.toNat := by
  rw [List.take_succ_eq_append_getElem h, List.flatMap_append]
  simp [List.getD, h]
theorem flat_len (l : List Int) (hl : ∀ x ∈ l, x ≤ 9223372036854775807) : (l.flatMap fun x => putN x.toNat).length ≤ 9 * l.length := by
  induction l with
  | nil => simp
  | cons x l ih =>
    have := putN_length x.toNat (by have := hl x (by simp); omega)
    have := ih (fun y hy => hl y (by simp [hy]))
    simp at *; omega
set_option maxHeartbeats 800000 in
set_option maxRecDepth 100000 in
theorem list_any (v : Value) (zs : List Int) (w : World) (hv : Ints w v zs) (hn : zs.length ≤ 1000) (hz : ∀ x ∈ zs, x ≤ 9223372036854775807) :
    Calls Try.prog 168 #[v] w fun e w' => e = .returned (.string ⟨(listN zs).toArray⟩) ∧ Below w.heap.size w w' := by
  obtain ⟨a, cap, rfl, hm, hc⟩ := hv
  have hu : U64 (zs.length : Int) := ⟨by omega, by omega⟩
  obtain ⟨i0, hi, hz0, hz1, hz2⟩ := info_parts info_u8
  have HU := Lib.hid hu
  clear hu
  go_enter Try.func168, Try.ntmps168
  go_wp2_with (go_at_call 113; refine (put_any _ _ HU.out).mono ?_; rintro e w' ⟨rfl, hb⟩)
  obtain ⟨v1, w1, hr, hown, hb1⟩ := conv_bytes (P := Try.prog) w' (src := 9) (dst := 155) Try.underlying9 Try.underlying155 Try.underlying5 (putN zs.length) (by have := putN_length zs.length (by omega); unfold maxLen; omega)
  have hbw : Below w.heap.size w w1 := hb.trans (hb1.mono hb.size)
  have hown' : OwnB w1 w.heap.size 5 v1 (putN zs.length) := hown.mono hb.size
  simp only [hr]
  clear hr hown hb1
  go_wp2_with fail
  go_loopw [3, 13] (fun v i wr => ∃ k : Nat, k ≤ zs.length ∧ i = .int .i64 k ∧ OwnB wr w.heap.size 5 v (putN zs.length ++ (zs.take k).flatMap fun x => putN x.toNat) ∧ Below w.heap.size w wr) (fun _ i _ => zs.length - (intOf i).toNat)
  case atStart => exact ⟨0, Nat.zero_le _, rfl, by simpa using hown', hbw⟩
  case round =>
    obtain ⟨k, hk, rfl, hown, hbel⟩ := hrel
    by_cases hlt : k < zs.length
    · obtain ⟨b, off, rfl, hb0, hcell⟩ : ∃ b off, a = some ⟨b, off, none⟩ ∧ b < w.heap.size ∧ ∀ j, j < zs.length → w.cell? ⟨b, off + j, none⟩ = some (.int .i64 (zs.getD j 0)) := by
        rcases hc with rfl | h
        · simp at hlt
        · exact h
      have hck : wr.cell? ⟨b, off + k, none⟩ = some (.int .i64 (zs.getD k 0)) := by rw [hbel.cell hb0]; exact hcell k hlt
      have hgt : zs.getD k 0 ≤ 9223372036854775807 := by rw [List.getD, List.getElem?_eq_getElem hlt]; exact hz _ (List.getElem_mem hlt)
      obtain ⟨x, hx⟩ : ∃ x, zs.getD k 0 = x := ⟨_, rfl⟩
      have hfin : putN zs.length ++ ((zs.take k).flatMap fun x => putN x.toNat) ++ putN (max x 0).toNat = putN zs.length ++ (zs.take (k + 1)).flatMap fun x => putN x.toNat := by
        rw [← listN_snoc zs.length zs k hlt, hx, show (max x 0).toNat = x.toNat by omega]
      have hlen : (putN zs.length ++ ((zs.take k).flatMap fun x => putN x.toNat)).length ≤ 10000 := by
        have h1 := putN_length zs.length (by omega)
        have h2 := flat_len (zs.take k) (fun y hy => hz y (List.mem_of_mem_take hy))
        have h3 : (zs.take k).length ≤ k := List.length_take_le _ _
        rw [List.length_append]; omega
      rw [hx] at hck hgt
      have hu2 : U64 (max x 0) := ⟨by omega, by omega⟩
      have hlen2 := putN_length (max x 0).toNat (by omega)
      have hwr : IntKind.u64.wrap (max x 0) = max x 0 := wrap_u64_in _ hu2
      have HU2 := Lib.hid hu2
      have HF := Lib.hid hfin
      generalize putN zs.length ++ ((zs.take k).flatMap fun x => putN x.toNat) = cur at *
      clear hx hcell hc hz hu2 hfin hown'
      go_wp2_with (first | (go_at_call 113; refine (put_any _ _ HU2.out).mono ?_; rintro e w2 ⟨rfl, hb2⟩) | (at_builtin; refine wp_append_str _ rfl (.tmp 17) (.tmp 21) 155 9 rfl w.heap.size 5 i0 Try.underlying155 Try.underlying9 hi hz0 hz1 hz2 _ _ rfl (hown.below hb2) _ rfl ?c1 ?c2 ?_))
      case c1 => omega
      case c2 => have := hbel.size; have := hb2.size; omega
      intro v' w3 hown3 hgr
      go_wp2
      go_roundw
      case rel =>
        refine ⟨k + 1, by omega, by go_num, ?_, ?_⟩
        · rw [← HF.out]; exact hown3
        · exact (hbel.trans (hb2.mono hbel.size)).grown hgr (by have := hbel.size; have := hb2.size; omega) (fun q hq => (hown.lt q hq).1)
      case measure => simp [intOf]; omega
    · have hcv := OwnB.string (P := Try.prog) (src := 155) (dst := 9) Try.underlying155 Try.underlying5 Try.underlying9 hown
      go_wp2
      go_ret
      exact ⟨ret_str (by rw [listN, List.take_of_length_le (by omega)]), hbel⟩
end Go.Proofs.Ytlhjgpedmnjbpaa
