/-
  Several texts, laid together.
-/
import Derived.Test.YtodjlaapmbnahaaMh5
import Derived.Test.YtodjlaapmbnahaaHeld
/-
  FlatBent: a value that no history has; a row that came in, as cells.
-/

namespace Go.Proofs.Ytodjlaapmbnahaa
open Go.RowKit
set_option linter.unusedVariables false
set_option linter.unusedSimpArgs false

theorem flat_inv {α : Type} {c : α → List Value} {sz : Nat} (hc : ∀ x, (c x).length = sz) : ∀ (rs : List α) (j : Nat) (u : Value), (rs.flatMap c)[j]? = some u → ∃ i x k, rs[i]? = some x ∧ (c x)[k]? = some u ∧ j = i * sz + k
  | [], j, u, h => by simp at h
  | x :: r, j, u, h => by
    rw [List.flatMap_cons] at h
    by_cases hj : j < sz
    · rw [List.getElem?_append_left (by rw [hc]; exact hj)] at h
      exact ⟨0, x, j, rfl, h, by omega⟩
    · rw [List.getElem?_append_right (by rw [hc]; omega), hc] at h
      obtain ⟨i, y, k, h1, h2, h3⟩ := flat_inv hc r _ u h
      exact ⟨i + 1, y, k, h1, h2, by rw [Nat.succ_mul]; omega⟩
theorem elts_to_sr {α : Type} {c : α → List Value} {sz : Nat} (hc : ∀ x, (c x).length = sz) {w : World} {v : Value} {rs : List α} (h : Elts w c sz v rs) : SR w v sz rs.length (rs.flatMap c) := by
  obtain ⟨a, cap, rfl, h1, h2, h3⟩ := h
  refine ⟨a, cap, rfl, h1, h2, ?_, h3.imp id ?_⟩
  · clear h1 h2 h3
    induction rs with
    | nil => simp
    | cons x r ih => rw [List.flatMap_cons, List.length_append, ih, hc, List.length_cons, Nat.succ_mul, Nat.add_comm]
  · rintro ⟨b, off, rfl, hlt, hcell⟩
    refine ⟨b, off, rfl, hlt, fun j u hu => ?_⟩
    obtain ⟨i, x, k, h1, h2, rfl⟩ := flat_inv hc rs j u hu
    rw [← Nat.add_assoc]
    exact hcell i x h1 k u h2
theorem conv1B {P : Program} {src dst e : TypeId} (hs : P.underlying src = some (.slice e)) (he : P.underlying e = some (.int .u8)) (hd : P.underlying dst = some .string) (w : World) (b0 : UInt8) (x0 : Int) (h0 : x0 = b0.toNat) :
    (convert src dst (.slice (some ⟨w.heap.size, 0, none⟩) 1 1)).run P (w.alloc (.cells #[.int .u8 x0] e)).drew = .ok (.string ⟨#[b0]⟩) (w.alloc (.cells #[.int .u8 x0] e)).drew := by
  subst h0
  refine run_convert_bytes_back _ src dst e ⟨w.heap.size, 0, none⟩ 1 [b0] hs he hd fun j hj => ?_
  have e1 : (⟨w.heap.size, 0, none⟩ : Addr).add j = ⟨w.heap.size, j, none⟩ := by unfold Addr.add; split <;> simp_all
  rw [e1]
  show (w.alloc _).cell? _ = _
  rw [World.cell?_alloc_at _ _ _ _ rfl]
  have : j = 0 := by simp at hj; omega
  subst this
  rfl
theorem fresh_is {b0 : UInt8} {k : Int} {s Z : ByteArray} {tt : Nat} (hk : (b0.toNat : Int) = k) (hz : Z.size = 32) : FreshV k (((⟨#[255]⟩ ++ (⟨#[b0]⟩ : ByteArray) ++ s.extract 0 tt) ++ Z).extract 0 32) := by
  refine ⟨?_, b0, (s.extract 0 tt ++ Z).data.toList.take 30, hk, ?_⟩
  · rw [ByteArray.size_extract, ByteArray.size_append, hz]
    omega
  · rw [Lib.extract_data]
    simp only [List.drop_zero, ByteArray.data_append, Array.toList_append]
    rw [List.append_assoc, List.append_assoc]
    rfl
def FreshP (k : Int) (w : World) (e : Ending) (w' : World) : Prop := ∃ X, e = .returned (.string X) ∧ FreshV k X ∧ Below w.heap.size w w'
set_option maxHeartbeats 1600000 in
set_option maxRecDepth 100000 in
theorem pfresh (s : ByteArray) (k : Int) (w : World) (hs : s.size ≤ maxLen) (hk : 0 ≤ k ∧ k ≤ 255) : Calls Try.prog 10 #[.string s, .int .i64 k] w (FreshP k w) := by
  unfold FreshP
  unfold maxLen at hs
  obtain ⟨tt, htt⟩ : ∃ tt : Int, min (s.size : Int) 20 = tt := ⟨_, rfl⟩
  have ht0 : 0 ≤ tt := by omega
  have ht1 : tt ≤ 20 := by omega
  have ht2 : tt ≤ (s.size : Int) := by omega
  obtain ⟨b0, hb0⟩ := byte_is k (by omega)
  have HK := Lib.hid hb0
  have hcv := conv1B Try.underlying68 Try.underlying5 Try.underlying9 w b0 _ hb0
  have hku : IntKind.u8.wrap k = k := by rw [hb0]; have := b0.toNat_lt; simp [IntKind.wrap, IntKind.bits, IntKind.signed]; omega
  have hz32 : (zeroL 32).size = 32 := rfl
  obtain ⟨Z, hZ⟩ : ∃ Z, zeroL 32 = Z := ⟨_, rfl⟩
  rw [hZ] at hz32
  have cz := fun w => zeros_any w
  rw [hZ] at cz
  have h0 : (⟨#[255]⟩ : ByteArray).size = 1 := rfl
  have hq1 : ¬ (9223372036854775807 < 2 + tt.toNat) := by omega
  have hq2 : ¬ (9223372036854775807 < 2 + tt.toNat + 32) := by omega
  have hq3 : (32 : Int) ≤ 2 + max tt 0 + 32 := by omega
  clear hb0 hZ
  go_enter Try.func10, Try.ntmps10
  go_wp2_with fail
  go_cut [4] (fun v wx => ∃ X, v = .string X ∧ FreshV k X ∧ Below w.heap.size w wx)
  case first =>
    go_region_with (go_at_call 15; refine Calls.mono (cz _) ?_; rintro e wz ⟨rfl, rfl⟩)
    all_goals
      go_wp2_with fail
      go_meet
      exact ⟨_, rfl, fresh_is HK.out.symm hz32, by go_grown⟩
  case rest =>
    obtain ⟨X, rfl, hX, hbX⟩ := hcut
    have HX := Lib.hid (And.intro hX hbX)
    clear hX hbX
    go_wp2_with fail
    go_ret
    exact ⟨_, rfl, HX.out⟩
end Go.Proofs.Ytodjlaapmbnahaa
/-
  A slice literal of several structs, at once.
-/

namespace Go.Proofs.Ytodjlaapmbnahaa
open Go.RowKit
set_option linter.unusedVariables false
set_option linter.unusedSimpArgs false

theorem fold_off (off : Nat) : ∀ (l : List Value) (k : Nat) (cs : Array Value), off + k + l.length ≤ cs.size →
    ((l.zipIdx k).foldl (fun (cs : Array Value) (p : Value × Nat) => cs.setIfInBounds (off + p.2) p.1) cs).toList = cs.toList.take (off + k) ++ l ++ cs.toList.drop (off + k + l.length)
  | [], k, cs, h => by simp
  | x :: r, k, cs, h => by
    simp only [List.zipIdx_cons, List.foldl_cons]
    simp only [List.length_cons] at h
    rw [fold_off off r (k + 1) _ (by simp; omega)]
    have hk : off + k < cs.toList.length := by simp; omega
    rw [Array.toList_setIfInBounds, ← Nat.add_assoc, List.take_succ_eq_append_getElem (by simpa using hk), List.take_set_of_le (Nat.le_refl _)]
    rw [List.drop_set_of_lt (by omega)]
    simp only [List.getElem_set_self, List.append_assoc, List.singleton_append, List.cons_append, List.length_cons]
    rw [List.nil_append, show off + k + 1 + r.length = off + k + (r.length + 1) by omega]
def aggs (k : Nat) (l : List (Array Value)) : List (Nat × Value) := (l.zipIdx k).map fun p => (p.2, .agg p.1)
theorem fill_many (size : Nat) : ∀ (l : List (Array Value)) (k : Nat) (cells : Array Value), (∀ c ∈ l, c.size = size) → cells.size = (k + l.length) * size →
    ∃ r : Array Value, Instr.fill (fun i => some (i * size, size)) cells (aggs k l) = some r ∧ r.toList = cells.toList.take (k * size) ++ l.flatMap Array.toList
  | [], k, cells, hl, hc => ⟨cells, rfl, by
      rw [List.take_of_length_le (by simp at hc; simp; omega)]
      simp⟩
  | c :: l, k, cells, hl, hc => by
    have hcs : c.size = size := hl c (List.mem_cons_self ..)
    have hsz : k * size + size ≤ cells.size := by
      rw [hc, List.length_cons, Nat.add_mul, Nat.succ_mul]
      omega
    have h1 := fold_off (k * size) c.toList 0 cells (by rw [Array.length_toList, hcs]; omega)
    obtain ⟨d, hd⟩ : ∃ d : Array Value, (c.zipIdx.foldl (fun (cs : Array Value) (p : Value × Nat) => cs.setIfInBounds (k * size + p.2) p.1) cells) = d := ⟨_, rfl⟩
    have hdl : d.toList = cells.toList.take (k * size) ++ c.toList ++ cells.toList.drop (k * size + size) := by
      rw [← hd, ← Array.foldl_toList]
      rw [Nat.add_zero, Array.length_toList, hcs] at h1
      simpa using h1
    have hds : d.size = (k + 1 + l.length) * size := by
      have := congrArg List.length hdl
      rw [Array.length_toList, List.length_append, List.length_append, List.length_take, List.length_drop, Array.length_toList, Array.length_toList, hcs] at this
      rw [this]
      rw [List.length_cons] at hc
      have e : k + 1 + l.length = k + (l.length + 1) := by omega
      rw [e, ← hc]
      omega
    obtain ⟨r, h2, h3⟩ := fill_many size l (k + 1) d (fun x hx => hl x (List.mem_cons_of_mem _ hx)) hds
    refine ⟨r, ?_, ?_⟩
    · show Instr.fill _ cells ((k, .agg c) :: aggs (k + 1) l) = _
      rw [Instr.fill]
      simp only
      rw [if_neg (by
        show ¬ ((decide (c.size ≠ size) || decide (k * size + c.size > cells.size)) = true)
        simp [hcs]
        omega)]
      rw [← h2]
      congr 1
    · rw [h3, hdl, Nat.succ_mul, List.append_assoc, List.take_append, List.length_take, Array.length_toList, Nat.min_eq_left (by omega), List.take_of_length_le (by rw [List.length_take]; omega), List.flatMap_cons, ← List.append_assoc]
      congr 2
      rw [show k * size + size - k * size = size by omega, List.take_append, Array.length_toList, hcs, Nat.sub_self, List.take_zero, List.append_nil, List.take_of_length_le (by rw [Array.length_toList, hcs]; exact Nat.le_refl _)]
theorem run_bsN {P : Program} {t e : TypeId} {i : TypeInfo} {z : Value} {size : Nat} (w : World) (l : List (Array Value)) (ht : P.underlying t = some (.slice e)) (hi : P.info? e = some i) (hz : i.zero = some z) (hs : i.size = size) (hzs : z.cells.size = size) (hl : ∀ c ∈ l, c.size = size) (h0 : 0 < l.length * size) (hm : l.length * size ≤ 16777216) :
    (Instr.buildSlice t l.length (aggs 0 l).toArray).run P w = .ok (.slice (some ⟨w.heap.size, 0, none⟩) l.length l.length) (w.alloc (.cells (l.flatMap Array.toList).toArray e)) := by
  obtain ⟨r, hf, hr⟩ := fill_many size l 0 ((Array.range (l.length * size)).map (z.cells[· % size]!)) hl (by simp)
  rw [Nat.zero_mul, List.take_zero, List.nil_append] at hr
  have hre : r = (l.flatMap Array.toList).toArray := by rw [← hr]
  subst hre
  have h1 : ¬ (16777216 < l.length * size) := by omega
  have h2 : ¬ (l.length * size = 0) := by omega
  have hrow : ∀ c : Array Value, (newRow e c).run P w = .ok ⟨w.heap.size, 0, none⟩ (w.alloc (.cells c e)) := fun c => rfl
  unfold Instr.buildSlice
  simp [Sem.run_bind, run_underlying ht w, sizeOf, typeInfo, hi, hs, zeroValue, hz, hzs, h1, h2, hf, hrow]
theorem wpList_bsN {P : Program} {ops : Array Oper} {rest : List Oper} {op : Oper} {a : Act} {w : World} {Q : Exit → Act → World → Prop} (hgd : op.guard = none) {t e : TypeId} {i : TypeInfo} {z : Value} {size n : Nat} (ps : List (Nat × Operand)) (ho : op.op = .buildSlice t n ps.toArray)
    (ht : P.underlying t = some (.slice e)) (hi : P.info? e = some i) (hz : i.zero = some z) (hs : i.size = size) (hzs : z.cells.size = size) (l : List (Array Value)) (hn : l.length = n) (hp : (ps.map fun (i, x) => (i, a.eval x)) = aggs 0 l)
    (cs : Array Value) (hcs : (l.flatMap Array.toList).toArray = cs) (hl : l.all (fun c => c.size == size) = true) (h0 : 0 < n * size) (hm : n * size ≤ 16777216)
    (h : wpList P ops Q rest (a.put op.dst (.slice (some ⟨w.heap.size, 0, none⟩) n n)) (w.alloc (.cells cs e))) : wpList P ops Q (op :: rest) a w :=
  wpList_plain hgd fun _ hK => by
    subst hn hcs
    have hr := run_bsN (P := P) w l ht hi hz hs hzs (fun c hc => by simpa using List.all_eq_true.1 hl c hc) h0 hm
    unfold Oper.wp execOp
    simp only [ho, List.map_toArray, hp, Sem.run_bind, hr, Sem.run_pure, Result.andThen_ok]
    exact hK _ _ h
end Go.Proofs.Ytodjlaapmbnahaa
/-
  FlatBent: its law. Written by genbent.py.
-/


namespace Go.Proofs.Ytodjlaapmbnahaa
open Go.RowKit
set_option linter.unusedVariables false
set_option linter.unusedSimpArgs false

theorem rangeB {w : World} {b : Nat} {A : Array Value} {t : TypeId} {fr : Nat × Nat} (h : w.heap[b]? = some (.cells A t fr)) : w.rangeAt b 0 A.toList := fun j v hv => by
  rw [Nat.zero_add]
  exact cell_atF h j (by simpa using hv)
theorem six_newB (w : World) (o1 o2 o3 o4 o5 o6 : Obj) : ((((((w.alloc o1).alloc o2).alloc o3).alloc o4).alloc o5).alloc o6).heap[w.heap.size]? = some o1 ∧ ((((((w.alloc o1).alloc o2).alloc o3).alloc o4).alloc o5).alloc o6).heap[w.heap.size + 1]? = some o2 ∧ ((((((w.alloc o1).alloc o2).alloc o3).alloc o4).alloc o5).alloc o6).heap[w.heap.size + 1 + 1]? = some o3 ∧ ((((((w.alloc o1).alloc o2).alloc o3).alloc o4).alloc o5).alloc o6).heap[w.heap.size + 1 + 1 + 1]? = some o4 ∧ ((((((w.alloc o1).alloc o2).alloc o3).alloc o4).alloc o5).alloc o6).heap[w.heap.size + 1 + 1 + 1 + 1]? = some o5 ∧ ((((((w.alloc o1).alloc o2).alloc o3).alloc o4).alloc o5).alloc o6).heap[w.heap.size + 1 + 1 + 1 + 1 + 1]? = some o6 ∧ Below w.heap.size w ((((((w.alloc o1).alloc o2).alloc o3).alloc o4).alloc o5).alloc o6) := by
  obtain ⟨h1, h2, h3, h4⟩ := three_newH w o1 o2 o3
  have hz : (((w.alloc o1).alloc o2).alloc o3).heap.size = w.heap.size + 1 + 1 + 1 := by simp
  obtain ⟨g1, g2, g3, g4⟩ := three_newH (((w.alloc o1).alloc o2).alloc o3) o4 o5 o6
  rw [hz] at g1 g2 g3 g4
  exact ⟨below_at g4 (by omega) h1, below_at g4 (by omega) h2, below_at g4 (by omega) h3, g1, g2, g3, h4.trans (g4.mono (by omega))⟩
theorem ev_okB {E X : List Ev} (h : ∀ e ∈ E, EvOk e) (hX : ∀ e ∈ X, EvOk e) : ∀ e ∈ E ++ X, EvOk e := fun e he => (List.mem_append.1 he).elim (h e) (hX e)
theorem evrd_ok {z : Int} (h : -9223372036854775808 ≤ z ∧ z ≤ 9223372036854775807) : EvOk (evRd z) := ⟨wf_of h, by show (Lit.int .i64 0).wf = true; decide, by show (Lit.int .i64 32).wf = true; decide, Nat.zero_le _, Nat.zero_le _⟩
theorem evwr_ok {z : Int} {D : ByteArray} (h : -9223372036854775808 ≤ z ∧ z ≤ 9223372036854775807) (hD : D.size = 32) : EvOk (evWr z D) := ⟨wf_of h, by show (Lit.int .i64 0).wf = true; decide, by show (Lit.int .i64 0).wf = true; decide, by show D.size ≤ maxLen; unfold maxLen; omega, Nat.zero_le _⟩
theorem evan_ok {z : Int} {D : ByteArray} (h : -9223372036854775808 ≤ z ∧ z ≤ 9223372036854775807) (hD : D.size ≤ 32) : EvOk (evAn z D) := ⟨wf_of h, by show (Lit.int .i64 0).wf = true; decide, by show (Lit.int .i64 0).wf = true; decide, Nat.zero_le _, by show D.size ≤ maxLen; unfold maxLen; omega⟩
theorem four_ok {X : List Ev} {w x : ByteArray} (hw : w.size = 32) (hx : x.size = 32) (h : X = X0 w ∨ X = X1 w ∨ X = X2 w x ∨ X = X3 w x) : X.length ≤ 6 ∧ ∀ e ∈ X, EvOk e := by
  have r := evrd_ok (z := 1000) (by decide)
  have t := evan_ok (z := 1000) (D := w) (by decide) (by omega)
  have a := evwr_ok (z := 1001) (by decide) hw
  have b := evwr_ok (z := 1002) (by decide) hx
  have c := evan_ok (z := 1001) (D := ⟨#[]⟩) (by decide) (by decide)
  have d := evan_ok (z := 1002) (D := ⟨#[]⟩) (by decide) (by decide)
  rcases h with rfl | rfl | rfl | rfl
  · refine ⟨by simp [X0], fun e he => ?_⟩
    simp only [X0, List.mem_cons, List.not_mem_nil, or_false] at he
    rcases he with rfl | rfl <;> assumption
  · refine ⟨by simp [X1], fun e he => ?_⟩
    simp only [X1, List.mem_cons, List.not_mem_nil, or_false] at he
    rcases he with rfl | rfl | rfl | rfl <;> assumption
  · refine ⟨by simp [X2], fun e he => ?_⟩
    simp only [X2, List.mem_cons, List.not_mem_nil, or_false] at he
    rcases he with rfl | rfl | rfl | rfl | rfl | rfl <;> assumption
  · refine ⟨by simp [X3], fun e he => ?_⟩
    simp only [X3, List.mem_cons, List.not_mem_nil, or_false] at he
    rcases he with rfl | rfl | rfl | rfl | rfl | rfl <;> assumption
theorem elts_app {E X : List Ev} {w : World} {N n : Nat} {v : Value} {xs : List Value} (h : w.ownsRow N 36 10 v n xs) (hn : n = E.length + X.length) (hx : xs = evCH E ++ evCH X) : Elts w Ev.c 10 v (E ++ X) := by
  have e : evCH E ++ evCH X = (E ++ X).flatMap Ev.c := by rw [← evC_appH]; rfl
  have hl : n = (E ++ X).length := by rw [List.length_append, hn]
  subst hx
  rw [e] at h
  subst hl
  exact elts_sr (c := Ev.c) (sz := 10) (fun x => rfl) (SR.owns h)
end Go.Proofs.Ytodjlaapmbnahaa
