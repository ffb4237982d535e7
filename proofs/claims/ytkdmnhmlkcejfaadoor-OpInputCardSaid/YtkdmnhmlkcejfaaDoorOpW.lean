/-
  A slice literal of one great struct, whole: one equation, whatever its size. A whole block's cells as a range.
-/
import Derived.Test.YtkdmnhmlkcejfaaDoorOpB
import Derived.Deep.MidRow
import Derived.Deep.WholeRow
namespace Go.Proofs.YtkdmnhmlkcejfaaDoor
open Go.RowKit
set_option linter.unusedVariables false
set_option linter.unusedSimpArgs false

/-- a whole block's cells -/
theorem range_of {w : World} {b : Nat} {A : Array Value} {t : TypeId} {fr : Nat × Nat} (h : w.heap[b]? = some (.cells A t fr)) : w.rangeAt b 0 A.toList := fun j v hv => by rw [Nat.zero_add]; exact cell_atD h j (by simpa using hv)
theorem fold_set : ∀ (l : List Value) (k : Nat) (cs : Array Value), cs.size = k + l.length →
    ((l.zipIdx k).foldl (fun (cs : Array Value) (p : Value × Nat) => cs.setIfInBounds p.2 p.1) cs).toList = cs.toList.take k ++ l
  | [], k, cs, h => by
    simp only [List.zipIdx_nil, List.foldl_nil, List.append_nil]
    rw [List.take_of_length_le]
    simp at h
    simp [h]
  | x :: r, k, cs, h => by
    simp only [List.zipIdx_cons, List.foldl_cons]
    simp only [List.length_cons] at h
    rw [fold_set r (k + 1) _ (by simp; omega)]
    have hk : k < cs.toList.length := by simp; omega
    rw [Array.toList_setIfInBounds, List.take_succ_eq_append_getElem (by simpa using hk), List.take_set_of_le (Nat.le_refl _)]
    simp
theorem fill_one (v : Value) (size : Nat) (cells : Array Value) (hv : v.cells.size = size) (hc : cells.size = size) :
    Instr.fill (fun i => some (i * size, size)) cells [(0, v)] = some v.cells := by
  have h1 := fold_set v.cells.toList 0 cells (by simp; omega)
  simp only [Instr.fill, Nat.zero_mul, Nat.zero_add]
  rw [if_neg (by simp; omega)]
  congr 1
  apply Array.toList_inj.1
  rw [← Array.foldl_toList]
  simpa using h1
theorem run_bs1 {P : Program} {t e : TypeId} {i : TypeInfo} {z v : Value} {size : Nat} (w : World) (ht : P.underlying t = some (.slice e)) (hi : P.info? e = some i) (hz : i.zero = some z) (hs : i.size = size) (hzs : z.cells.size = size) (hv : v.cells.size = size) (h0 : 0 < size) (hm : size ≤ 16777216) :
    (Instr.buildSlice t 1 #[(0, v)]).run P w = .ok (.slice (some ⟨w.heap.size, 0, none⟩) 1 1) (w.alloc (.cells v.cells e)) := by
  have hf := fill_one v size ((Array.range size).map (z.cells[· % size]!)) hv (by simp)
  have h1 : ¬ (16777216 < size) := by omega
  have h2 : ¬ (size = 0) := by omega
  have hr : ∀ c : Array Value, (newRow e c).run P w = .ok ⟨w.heap.size, 0, none⟩ (w.alloc (.cells c e)) := fun c => rfl
  unfold Instr.buildSlice
  simp [Sem.run_bind, run_underlying ht w, sizeOf, typeInfo, hi, hs, zeroValue, hz, hzs, h1, h2, hf, hr]
theorem wpList_bs1 {P : Program} {ops : Array Oper} {rest : List Oper} {op : Oper} {a : Act} {w : World} {Q : Exit → Act → World → Prop} (hgd : op.guard = none) {t e : TypeId} {i : TypeInfo} {z : Value} {size : Nat} (x : Operand) (ho : op.op = .buildSlice t 1 #[(0, x)])
    (ht : P.underlying t = some (.slice e)) (hi : P.info? e = some i) (hz : i.zero = some z) (hs : i.size = size) (hzs : z.cells.size = size) (h0 : 0 < size) (hm : size ≤ 16777216)
    (c : Array Value) (hx : a.eval x = .agg c) (hc : c.size = size)
    (h : wpList P ops Q rest (a.put op.dst (.slice (some ⟨w.heap.size, 0, none⟩) 1 1)) (w.alloc (.cells c e))) : wpList P ops Q (op :: rest) a w :=
  wpList_plain hgd fun _ hK => by
    have hr := run_bs1 (P := P) (v := .agg c) w ht hi hz hs hzs hc h0 hm
    unfold Oper.wp execOp
    simp only [ho, List.map_toArray, List.map_cons, List.map_nil, hx, Sem.run_bind, hr, Sem.run_pure, Result.andThen_ok]
    exact hK _ _ h
theorem wp_alloc_op {P : Program} {op : Oper} {a : Act} {w : World} {K : Act → World → Prop} {Q : Exit → Act → World → Prop} (ty : TypeId) (ho : op.op = .alloc ty) {i : TypeInfo} (hi : P.info? ty = some i) (c : Array Value) (hz : i.zero = some (.agg c))
    (h : K (a.put op.dst (.pointer (some ⟨w.heap.size, 0, none⟩))) (w.alloc (.cells c ty))) : op.wp P a w K Q := by
  have hr : (newVar ty (.agg c)).run P w = .ok ⟨w.heap.size, 0, none⟩ (w.alloc (.cells c ty)) := rfl
  unfold Oper.wp execOp
  simp [ho, Sem.run_bind, Sem.run_pure, Result.andThen_ok, zeroValue, typeInfo, hi, hz, hr, Instr.alloc]
  exact h
theorem wp_store_new {P : Program} {op : Oper} {a : Act} {w : World} {K : Act → World → Prop} {Q : Exit → Act → World → Prop} (ty : TypeId) (x y : Operand) (ho : op.op = .store ty x y) (c c' : Array Value)
    (hx : a.eval x = .pointer (some ⟨w.heap.size, 0, none⟩)) (hy : a.eval y = .agg c') (hi : (P.info? ty).map (·.size) = some c'.size) (hs : c.size = c'.size) (h1 : c'.all (·.oneCell') = true)
    (h : K (a.put op.dst undef) (w.alloc (.cells c' ty))) : op.wp P a (w.alloc (.cells c ty)) K Q := by
  unfold Oper.wp execOp
  simp only [ho, hx, hy, Instr.storeAt, Instr.sureAddr, Sem.run_bind, Sem.run_pure, Result.andThen_ok, run_storeVar_new w ty c c' hi hs h1]
  exact h
end Go.Proofs.YtkdmnhmlkcejfaaDoor
