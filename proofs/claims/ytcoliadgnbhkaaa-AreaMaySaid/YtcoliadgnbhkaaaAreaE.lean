/-
  The waking call of layer 6; AreaTorn.
-/
import Derived.Test.YtcoliadgnbhkaaaAreaD
namespace Go.Proofs.Ytcoliadgnbhkaaa
open Go.RowKit
set_option linter.unusedVariables false
set_option linter.unusedSimpArgs false

theorem got_string {l : List UInt8} {s : ByteArray} (hl : l.length = s.size) (h : ∀ j, j < s.size → l.getD j 0 = atB s j) : (⟨l.toArray⟩ : ByteArray) = s := by
  apply str_ext
  show l = s.data.toList
  apply List.ext_getElem?
  intro j
  have hs : s.data.toList.length = s.size := rfl
  by_cases hj : j < s.size
  · have e := h j hj
    unfold atB at e
    rw [List.getD_eq_getElem?_getD, List.getD_eq_getElem?_getD] at e
    rw [List.getElem?_eq_getElem (by omega), List.getElem?_eq_getElem (by omega)] at e ⊢
    simpa using e
  · rw [List.getElem?_eq_none (by omega), List.getElem?_eq_none (by omega)]
/-- a block that is none of the disk's -/
theorem DKept.other {w1 w2 wr : World} {N p q : Nat} {sv lv lv2 : Value} {S : List ByteArray} {L : List (Nat × ByteArray)} {o : Obj} (hd : Dsk w1 N p sv lv S L) (hk : DKept w2 wr N p sv lv lv2) (hx : w2.heap[q]? = some o) (hq : w1.heap.size ≤ q) : wr.heap[q]? = some o :=
  (hk.block q (lt_heap hx) (fun e => by have := hd.lt; omega) (fun e => by have := (hd.sure.lt q e.symm).2; omega) (fun e => by have := (hd.later.lt q e.symm).2; omega)).trans hx
theorem curD_cons (S : List ByteArray) (x : Nat × ByteArray) (L : List (Nat × ByteArray)) (i : Nat) (hi : i < S.length) : curD S (x :: L) i = curD (S.set x.1 x.2) L i := by
  unfold curD
  rw [List.reverse_cons, List.find?_append]
  cases hf : L.reverse.find? (fun x => x.1 == i) with
  | some y => simp
  | none =>
    by_cases h : x.1 = i
    · subst h
      simp [List.getD_eq_getElem?_getD, hi]
    · have h' : (x.1 == i) = false := by simpa using h
      simp [h', List.getD_eq_getElem?_getD, List.getElem?_set_ne h]
theorem sync_cur (S : List ByteArray) (L : List (Nat × ByteArray)) (i : Nat) (hi : i < S.length) : curD (syncS S L) [] i = curD S L i := by
  unfold syncS
  have : ∀ (L : List (Nat × ByteArray)) (k : Nat) (S : List ByteArray), i < S.length → curD (endS (fun _ => 1) k S L) [] i = curD S L i := by
    intro L
    induction L with
    | nil => intro k S _; rfl
    | cons x L ih =>
      intro k S hi
      have h1 : fateS 1 S x = S.set x.1 x.2 := by unfold fateS; rw [if_pos rfl]
      show curD (endS (fun _ => 1) (k + 1) (fateS 1 S x) L) [] i = _
      rw [ih _ _ (by rw [fateS_length]; exact hi), h1, curD_cons S x L i hi]
  exact this L 0 S hi
theorem flat_nil (S : List ByteArray) (j : Nat) : flatD S [] j = atB (S.getD (j / 64) ⟨#[]⟩) (j % 64) := by
  unfold flatD curD
  rfl
/-- what a fate leaves of bytes that a writing has as they are -/
theorem fate_same (f : Int) (S : List ByteArray) (x : Nat × ByteArray) (T : Nat) (hS : ∀ s ∈ S, s.size = 64) (hx : x.1 < S.length ∧ x.2.size = 64) (h : ∀ q, q < 64 → 64 * x.1 + q < T → atB x.2 q = flatD S [] (64 * x.1 + q)) (j : Nat) (hj : j < T) : flatD (fateS f S x) [] j = flatD S [] j := by
  have hw : (S.getD x.1 ⟨#[]⟩).size = 64 := by
    rw [List.getD_eq_getElem?_getD, List.getElem?_eq_getElem hx.1]
    exact hS _ (List.getElem_mem _)
  have hset : ∀ v : ByteArray, (∀ q, q < 64 → 64 * x.1 + q < T → atB v q = flatD S [] (64 * x.1 + q)) → flatD (S.set x.1 v) [] j = flatD S [] j := by
    intro v hv
    by_cases hk : x.1 = j / 64
    · have hm : j % 64 < 64 := Nat.mod_lt _ (by omega)
      have := hv (j % 64) hm (by omega)
      rw [show 64 * x.1 + j % 64 = j by omega] at this
      rw [← this, flat_nil, List.getD_eq_getElem?_getD, ← hk, List.getElem?_set_self hx.1]
      rfl
    · rw [flat_nil, flat_nil, List.getD_eq_getElem?_getD, List.getElem?_set_ne hk, ← List.getD_eq_getElem?_getD]
  have hold : ∀ q, q < 64 → atB (S.getD x.1 ⟨#[]⟩) q = flatD S [] (64 * x.1 + q) := by
    intro q hq
    rw [flat_nil, show (64 * x.1 + q) / 64 = x.1 by omega, show (64 * x.1 + q) % 64 = q by omega]
  have hmix : ∀ a b : ByteArray, a.size = 64 → b.size = 64 → (∀ q, q < 64 → 64 * x.1 + q < T → atB a q = flatD S [] (64 * x.1 + q)) → (∀ q, q < 64 → 64 * x.1 + q < T → atB b q = flatD S [] (64 * x.1 + q)) → ∀ q, q < 64 → 64 * x.1 + q < T → atB (frontS a ++ backS b) q = flatD S [] (64 * x.1 + q) := by
    intro a b ha hb ga gb q hq hqt
    rw [atB_app, front_size ha]
    by_cases h32 : q < 32
    · rw [if_pos h32]
      unfold frontS
      rw [atB_ext _ _ _ _ (by omega), Nat.zero_add]
      exact ga q hq hqt
    · rw [if_neg h32]
      unfold backS
      rw [atB_ext _ _ _ _ (by omega), show 32 + (q - 32) = q by omega]
      exact gb q hq hqt
  unfold fateS
  repeat' split
  · exact hset _ h
  · exact hset _ (hmix _ _ hx.2 hw h (fun q hq _ => hold q hq))
  · exact hset _ (hmix _ _ hw hx.2 (fun q hq _ => hold q hq) h)
  · rfl
theorem end_same (fate : Nat → Int) (T : Nat) : ∀ (L : List (Nat × ByteArray)) (k : Nat) (S : List ByteArray), (∀ s ∈ S, s.size = 64) → (∀ x ∈ L, x.1 < S.length ∧ x.2.size = 64) → (∀ x ∈ L, ∀ q, q < 64 → 64 * x.1 + q < T → atB x.2 q = flatD S [] (64 * x.1 + q)) → ∀ j, j < T → flatD (endS fate k S L) [] j = flatD S [] j := by
  intro L
  induction L with
  | nil => intro k S _ _ _ j _; rfl
  | cons x L ih =>
    intro k S hS hL h j hj
    have hx := hL x (by simp)
    have hsame := fate_same (fate k) S x T hS hx (h x (by simp))
    show flatD (endS fate (k + 1) (fateS (fate k) S x) L) [] j = _
    rw [ih (k + 1) _ (fateS_sizes _ _ _ hS hx) (fun y hy => by rw [fateS_length]; exact hL y (by simp [hy])) (fun y hy q hq hqt => by rw [hsame _ hqt]; exact h y (by simp [hy]) q hq hqt) j hj]
    exact hsame j hj
set_option maxHeartbeats 1600000 in
theorem awake06 (w : World) : Calls Try.prog 33 #[] w fun e w' => e = .returned (.bool true) ∧ Below w.heap.size w w' := by
  have cn := dnew 4 w (by omega) (by omega)
  go_enter Try.func33, Try.ntmps33
  go_wp2_with fail
  refine Calls.mono cn ?_
  rintro e w1 ⟨p, sv, rfl, hd, hb⟩
  have HB := Lib.hid hb
  have HD := Lib.hid hd
  have hx := heap_alloc_self w1 (.cells #[.int .i64 1, .int .i64 2] 63)
  have hba : Below w1.heap.size w1 (w1.alloc (.cells #[.int .i64 1, .int .i64 2] 63)) := (Below.refl _ _).alloc (Nat.le_refl _) _
  clear hd hb cn
  go_upto_region 3 with fail
  generalize w1.alloc (.cells #[.int .i64 1, .int .i64 2] 63) = w2 at *
  have HD2 := Lib.hid (HD.out.below hba)
  have HX := Lib.hid hx
  have HB2 := Lib.hid (HB.out.trans (hba.mono HB.out.size))
  have hq1 : w1.heap.size ≤ w1.heap.size := Nat.le_refl _
  obtain ⟨q, hq⟩ : ∃ q, w1.heap.size = q := ⟨_, rfl⟩
  rw [hq] at HX
  try rw [hq]
  have HQ := Lib.hid hq
  have c0 : w2.cell? ⟨q, 0, none⟩ = some (.int .i64 1) := by have := HX.out; simp [World.cell?, this]
  have c1 : w2.cell? ⟨q, 1, none⟩ = some (.int .i64 2) := by have := HX.out; simp [World.cell?, this]
  have cw : Calls Try.prog 31 #[.pointer (some ⟨p, 0, none⟩), .agg #[.int .i64 1, .int .i64 2], .int .i64 60, .string ⟨#[49, 50, 51, 52, 53, 54, 55, 56]⟩] w2 (AWrote w2 w.heap.size p sv (.slice none 0 0) (freshS 4) [] 124 8 ⟨#[49, 50, 51, 52, 53, 54, 55, 56]⟩) := awrite 1 2 60 ⟨#[49, 50, 51, 52, 53, 54, 55, 56]⟩ w2 w.heap.size p sv _ _ _ HD2.out (by decide) (by decide)
  clear hx hba hq1 hq
  go_wp2_with fail
  refine Calls.mono cw ?_
  rintro e w3 ⟨r, k, rfl, hrk, hwr⟩
  obtain ⟨rfl, rfl⟩ := hrk (by rw [freshS_length]; omega)
  obtain ⟨lv2, L2, hd3, hla, hk3⟩ := hwr.ex
  have hx3 := DKept.other HD.out hk3 HX.out (by have := HQ.out; omega)
  have hlen : L2.length = 2 := by
    rcases hla.cnt with ⟨h0, _⟩ | ⟨_, h⟩
    · omega
    · rw [h]; rfl
  have HL := Lib.hid hlen
  have HLA := Lib.hid hla
  have HD3 := Lib.hid hd3
  have HX3 := Lib.hid hx3
  have HB3 := Lib.hid (HB2.out.trans hk3.below)
  have d0 : w3.cell? ⟨q, 0, none⟩ = some (.int .i64 1) := by simp [World.cell?, hx3]
  have d1 : w3.cell? ⟨q, 1, none⟩ = some (.int .i64 2) := by simp [World.cell?, hx3]
  have cr : Calls Try.prog 32 #[.pointer (some ⟨p, 0, none⟩), .agg #[.int .i64 1, .int .i64 2], .int .i64 62, .int .i64 4] w3 (ARead w3 (freshS 4) L2 126 4) := aread 1 2 62 4 w3 w.heap.size p sv _ _ _ HD3.out (by omega) (by decide)
  clear hlen hla hd3 hx3 hk3 hwr hrk c0 c1 cw
  go_wp2_with fail
  refine Calls.mono cr ?_
  rintro e w4 ⟨r, l, rfl, hg, hn, hr, hb⟩
  obtain rfl := hr (by rw [freshS_length]; omega)
  have hg := hg rfl
  have hs : (⟨l.toArray⟩ : ByteArray) = ⟨#[51, 52, 53, 54]⟩ := by
    refine got_string (by rw [hg.1]; rfl) fun j hj => ?_
    have hj4 : j < 4 := hj
    rw [hg.2 j hj4, HLA.out.flat, if_pos (by omega)]
    have : j = 0 ∨ j = 1 ∨ j = 2 ∨ j = 3 := by omega
    rcases this with rfl | rfl | rfl | rfl <;> rfl
  have HB4 := Lib.hid (below_trans HB3.out hb HB3.out.size)
  have hx4 := (hb.block q (lt_heap HX3.out)).trans HX3.out
  have cl := dlater w4 _ _ _ _ _ _ (HD3.out.below hb)
  rw [HL.out] at cl
  have cb := fun w => abytes 1 2 w
  have e0 : w4.cell? ⟨q, 0, none⟩ = some (.int .i64 1) := by simp [World.cell?, hx4]
  have e1 : w4.cell? ⟨q, 1, none⟩ = some (.int .i64 2) := by simp [World.cell?, hx4]
  have hby : bytesA 1 2 = 128 := by decide
  simp only [hby] at cb
  unfold areaV at cb
  clear hg hn hr hb cr d0 d1 hx4 hby
  rw [hs]
  clear hs
  go_wp2_with fail
  refine Calls.mono cl ?_
  rintro e w5 ⟨rfl, rfl⟩
  go_wp2_with fail
  refine Calls.mono (cb _) ?_
  rintro e w5 ⟨rfl, hb⟩
  have HB5 := Lib.hid (below_trans HB4.out hb HB4.out.size)
  clear hb cb
  go_wp2_with fail
  go_ret
  exact ⟨ret_bool (by simp), HB5.out⟩
end Go.Proofs.Ytcoliadgnbhkaaa
