/-
  Operations taken whole: slice literals of no and of one struct; stores.
-/
import Derived.Test.YtkdmnhmlkcejfaaRgM
namespace Go.Proofs.Ytkdmnhmlkcejfaa
open Go.RowKit
set_option linter.unusedVariables false
set_option linter.unusedSimpArgs false

theorem foldSetR : ∀ (l : List Value) (k : Nat) (cs : Array Value), cs.size = k + l.length →
    ((l.zipIdx k).foldl (fun (cs : Array Value) (p : Value × Nat) => cs.setIfInBounds p.2 p.1) cs).toList = cs.toList.take k ++ l
  | [], k, cs, h => by
    simp only [List.zipIdx_nil, List.foldl_nil, List.append_nil]
    rw [List.take_of_length_le]
    simp at h
    simp [h]
  | x :: r, k, cs, h => by
    simp only [List.zipIdx_cons, List.foldl_cons]
    simp only [List.length_cons] at h
    rw [foldSetR r (k + 1) _ (by simp; omega)]
    have hk : k < cs.toList.length := by simp; omega
    rw [Array.toList_setIfInBounds, List.take_succ_eq_append_getElem (by simpa using hk), List.take_set_of_le (Nat.le_refl _)]
    simp
theorem fillOneR (v : Value) (size : Nat) (cells : Array Value) (hv : v.cells.size = size) (hc : cells.size = size) :
    Instr.fill (fun i => some (i * size, size)) cells [(0, v)] = some v.cells := by
  have h1 := foldSetR v.cells.toList 0 cells (by simp; omega)
  simp only [Instr.fill, Nat.zero_mul, Nat.zero_add]
  rw [if_neg (by simp; omega)]
  congr 1
  apply Array.toList_inj.1
  rw [← Array.foldl_toList]
  simpa using h1
theorem runBs1R {P : Program} {t e : TypeId} {i : TypeInfo} {z v : Value} {size : Nat} (w : World) (ht : P.underlying t = some (.slice e)) (hi : P.info? e = some i) (hz : i.zero = some z) (hs : i.size = size) (hzs : z.cells.size = size) (hv : v.cells.size = size) (h0 : 0 < size) (hm : size ≤ 16777216) :
    (Instr.buildSlice t 1 #[(0, v)]).run P w = .ok (.slice (some ⟨w.heap.size, 0, none⟩) 1 1) (w.alloc (.cells v.cells e)) := by
  have hf := fillOneR v size ((Array.range size).map (z.cells[· % size]!)) hv (by simp)
  have h1 : ¬ (16777216 < size) := by omega
  have h2 : ¬ (size = 0) := by omega
  have hr : ∀ c : Array Value, (newRow e c).run P w = .ok ⟨w.heap.size, 0, none⟩ (w.alloc (.cells c e)) := fun c => rfl
  unfold Instr.buildSlice
  simp [Sem.run_bind, run_underlying ht w, sizeOf, typeInfo, hi, hs, zeroValue, hz, hzs, h1, h2, hf, hr]
theorem runBs0R {P : Program} {t e : TypeId} {i : TypeInfo} (w : World) (ht : P.underlying t = some (.slice e)) (hi : P.info? e = some i) :
    (Instr.buildSlice t 0 #[]).run P w = .ok (.slice (some ⟨w.heap.size, 0, none⟩) 0 0) (w.alloc (.cells #[] e)) := by
  have hr : ∀ c : Array Value, (newRow e c).run P w = .ok ⟨w.heap.size, 0, none⟩ (w.alloc (.cells c e)) := fun c => rfl
  unfold Instr.buildSlice
  simp [Sem.run_bind, run_underlying ht w, sizeOf, typeInfo, hi, Instr.fill, hr]
  have e0 : ∀ f : Nat → Value, Array.map f (Array.range 0) = #[] := fun f => by apply Array.eq_empty_of_size_eq_zero; simp
  rw [e0]
theorem wp_bs1R {P : Program} {op : Oper} {a : Act} {w : World} {K : Act → World → Prop} {Q : Exit → Act → World → Prop} {t e : TypeId} {i : TypeInfo} {z : Value} {size : Nat} (x : Operand) (ho : op.op = .buildSlice t 1 #[(0, x)])
    (ht : P.underlying t = some (.slice e)) (hi : P.info? e = some i) (hz : i.zero = some z) (hs : i.size = size) (hzs : z.cells.size = size) (h0 : 0 < size) (hm : size ≤ 16777216) (c : Array Value) (hx : a.eval x = .agg c) (hc : c.size = size)
    (h : K (a.put op.dst (.slice (some ⟨w.heap.size, 0, none⟩) 1 1)) (w.alloc (.cells c e))) : op.wp P a w K Q := by
  have hr := runBs1R (P := P) (v := .agg c) w ht hi hz hs hzs hc h0 hm
  unfold Oper.wp execOp
  simp only [ho, List.map_toArray, List.map_cons, List.map_nil, hx, Sem.run_bind, hr, Sem.run_pure, Result.andThen_ok]
  exact h
theorem wp_bs0R {P : Program} {op : Oper} {a : Act} {w : World} {K : Act → World → Prop} {Q : Exit → Act → World → Prop} {t e : TypeId} {i : TypeInfo} (ho : op.op = .buildSlice t 0 #[]) (ht : P.underlying t = some (.slice e)) (hi : P.info? e = some i)
    (h : K (a.put op.dst (.slice (some ⟨w.heap.size, 0, none⟩) 0 0)) (w.alloc (.cells #[] e))) : op.wp P a w K Q := by
  have hr := runBs0R (P := P) w ht hi
  unfold Oper.wp execOp
  simp only [ho, List.map_toArray, List.map_nil, Sem.run_bind, hr, Sem.run_pure, Result.andThen_ok]
  exact h
end Go.Proofs.Ytkdmnhmlkcejfaa
