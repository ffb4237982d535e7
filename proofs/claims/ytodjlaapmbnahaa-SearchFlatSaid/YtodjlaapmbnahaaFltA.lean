/-
  A text copied into a row of bytes; blocks behind one another. Of no program.
-/
import Derived.Test.YtodjlaapmbnahaaNeedB
import Derived.Laws.CopyOwn
namespace Go.Proofs.Ytodjlaapmbnahaa
open Go.RowKit
set_option linter.unusedVariables false
set_option linter.unusedSimpArgs false

theorem strCells_take (s : ByteArray) (n : Nat) : Lib.strCells (s.extract 0 n) = (Lib.strCells s).take n := by
  simp [Lib.strCells, Lib.extract_data, List.map_take]
theorem run_copy_str {P : Program} (w : World) (dT sT ty elem : TypeId) (g o dLen dCap : Nat) (s : ByteArray) (cur : Array Value) (t : TypeId)
    (hu : P.underlying dT = some (.slice elem)) (hs : (P.info? elem).map (·.size) = some 1) (hg : w.heap[g]? = some (.cells cur t (0, 0))) (hn : s.size = dLen) (hfit : o + dLen ≤ cur.size) :
    (Builtin.copy_ #[dT, sT] ty #[.slice (some ⟨g, o, none⟩) dLen dCap, .string s]).run P w = .ok (goInt dLen) (w.setRow g (splice cur.toList o (Lib.strCells s)).toArray) := by
  have hst := run_storeCells_at P g o t (Lib.strCells s) 0 cur w hg (by rw [Lib.strCells_length]; omega) (Lib.strCells_oneCell s)
  cases hq : P.info? elem with
  | none => simp [hq] at hs
  | some i =>
    have hi : i.size = 1 := by simpa [hq] using hs
    have hm : Nat.min s.size dLen = dLen := by rw [hn]; exact Nat.min_self _
    have hf : (Builtin.firstCells 1 dLen (.string s)).run P w = .ok (Lib.strCells s).toArray w := by rw [← hn]; exact Lib.run_firstCells_string w 1 s
    simp [Builtin.copy_, run_underlying hu, Builtin.lenOf, sizeOf, typeInfo, hq, hi, hm, hf, hst, splice]
theorem wpList_copy_str {P : Program} {w : World} {ops : Array Oper} {rest : List Oper} {o : Oper} {a : Act} {Q : Exit → Act → World → Prop} (hgd : o.guard = none) (d s : Operand) (dT sT : TypeId)
    (ho : o.op = .call { callee := .builtin .copy, args := #[d, s], argTypes := #[dT, sT] }) (elem : TypeId) (hu : P.underlying dT = some (.slice elem)) (hsz : (P.info? elem).map (·.size) = some 1)
    (g off dLen dCap : Nat) (str : ByteArray) (hd : a.eval d = .slice (some ⟨g, off, none⟩) dLen dCap) (hs : a.eval s = .string str)
    (cur : Array Value) (t : TypeId) (hg : w.heap[g]? = some (.cells cur t (0, 0))) (hn : str.size = dLen) (hfit : off + dLen ≤ cur.size)
    (h : wpList P ops Q rest (a.put o.dst (goInt dLen)) (w.setRow g (splice cur.toList off (Lib.strCells str)).toArray)) : wpList P ops Q (o :: rest) a w := by
  refine wpList_plain hgd fun K hK => ?_
  have hrun := run_copy_str (P := P) w dT sT o.type elem g off dLen dCap str cur t hu hsz hg hn hfit
  unfold Oper.wp
  simp [execOp, ho, resolve, invoke, builtin, hd, hs, hrun, Result.andThen]
  exact hK _ _ h

/-! ### Blocks of 32 bytes, one behind the other -/

/-- all are blocks -/
def Blks (L : List ByteArray) : Prop := ∀ s ∈ L, s.size = 32
/-- their bytes -/
def flatL (L : List ByteArray) : List UInt8 := L.flatMap (·.data.toList)
theorem data_len (s : ByteArray) : s.data.toList.length = s.size := by show s.data.toList.length = s.data.size; simp
theorem flatL_len {L : List ByteArray} (h : Blks L) : (flatL L).length = 32 * L.length := by
  induction L with
  | nil => rfl
  | cons s L ih =>
    have h1 := h s (by simp)
    have h2 := ih (fun x hx => h x (by simp [hx]))
    rw [flatL, List.flatMap_cons, List.length_append, data_len, h1, List.length_cons]
    have : (L.flatMap (·.data.toList)).length = 32 * L.length := h2
    omega
theorem flatL_append (L M : List ByteArray) : flatL (L ++ M) = flatL L ++ flatL M := by simp [flatL]
theorem Blks.take {L : List ByteArray} (h : Blks L) (j : Nat) : Blks (L.take j) := fun s hs => h s (List.mem_of_mem_take hs)
theorem Blks.drop {L : List ByteArray} (h : Blks L) (j : Nat) : Blks (L.drop j) := fun s hs => h s (List.mem_of_mem_drop hs)
theorem Blks.set {L : List ByteArray} (h : Blks L) (j : Nat) {S : ByteArray} (hS : S.size = 32) : Blks (L.set j S) := fun s hs => by
  rcases List.mem_or_eq_of_mem_set hs with h1 | h1
  · exact h s h1
  · rw [h1]; exact hS
theorem flatL_parts {L : List ByteArray} (h : Blks L) {j : Nat} (hj : j < L.length) :
    flatL L = flatL (L.take j) ++ (L[j].data.toList ++ flatL (L.drop (j + 1))) ∧ (flatL (L.take j)).length = 32 * j ∧ L[j].data.toList.length = 32 := by
  refine ⟨?_, ?_, ?_⟩
  · have e : L = L.take j ++ (L[j] :: L.drop (j + 1)) := by simp
    have e2 : flatL (L[j] :: L.drop (j + 1)) = L[j].data.toList ++ flatL (L.drop (j + 1)) := by rw [flatL, List.flatMap_cons]; rfl
    conv => lhs; rw [e, flatL_append, e2]
  · rw [flatL_len (h.take j), List.length_take, Nat.min_eq_left (by omega)]
  · rw [data_len]; exact h _ (List.getElem_mem hj)
theorem flatL_at {L : List ByteArray} (h : Blks L) {j : Nat} (hj : j < L.length) : ((flatL L).drop (32 * j)).take 32 = L[j].data.toList := by
  obtain ⟨e, l1, l2⟩ := flatL_parts h hj
  rw [e, List.drop_left' l1, List.take_left' l2]
theorem flatL_set {L : List ByteArray} (h : Blks L) {j : Nat} (hj : j < L.length) {S : ByteArray} (hS : S.size = 32) : flatL (L.set j S) = splice (flatL L) (32 * j) S.data.toList := by
  obtain ⟨e, l1, l2⟩ := flatL_parts h hj
  have hs : S.data.toList.length = 32 := by rw [data_len]; exact hS
  have e1 : L.set j S = L.take j ++ (S :: L.drop (j + 1)) := by
    rw [List.set_eq_take_append_cons_drop, if_pos hj]
  have e2 : flatL (S :: L.drop (j + 1)) = S.data.toList ++ flatL (L.drop (j + 1)) := by rw [flatL, List.flatMap_cons]; rfl
  rw [e1, flatL_append, e2, splice, e, List.take_left' l1, hs]
  congr 2
  rw [← List.append_assoc, List.drop_left' (by rw [List.length_append]; omega)]
theorem splice_bCells (L S : List UInt8) (o : Nat) : splice (bCells L) o (bCells S) = bCells (splice L o S) := by
  simp [splice, bCells, List.map_take, List.map_drop]
/-- what is there behind k parts, and what was read by then -/
def doL (W : Int) (q : Nat) (D : ByteArray) (L : List ByteArray) : Nat → List ByteArray
  | 0 => L
  | k + 1 => if W = 0 then doL W q D L k else (doL W q D L k).set (q + k) (partD W D k)
def outL (W : Int) (q : Nat) (L : List ByteArray) : Nat → List UInt8
  | 0 => []
  | k + 1 => outL W q L k ++ (if W = 0 then (L.getD (q + k) ⟨#[]⟩).data.toList else [])
theorem doL_len (W : Int) (q : Nat) (D : ByteArray) (L : List ByteArray) (k : Nat) : (doL W q D L k).length = L.length := by
  induction k with
  | zero => rfl
  | succ k ih => rw [doL]; split; exact ih; rw [List.length_set, ih]
theorem doL_read (q : Nat) (D : ByteArray) (L : List ByteArray) (k : Nat) : doL 0 q D L k = L := by
  induction k with
  | zero => rfl
  | succ k ih => rw [doL, if_pos rfl, ih]
theorem outL_none {W : Int} (h : W ≠ 0) (q : Nat) (L : List ByteArray) (k : Nat) : outL W q L k = [] := by
  induction k with
  | zero => rfl
  | succ k ih => rw [outL, ih, if_neg h]; rfl
theorem zeroL_size (n : Nat) : (zeroL n).size = n := by show (List.replicate n (0 : UInt8)).toArray.size = n; simp
theorem partD_size {W : Int} {D : ByteArray} {m k : Nat} (h : W = 1 → D.size = 32 * m) (hk : k < m) (hW : W = 1 ∨ W = 2) : (partD W D k).size = 32 := by
  rcases hW with rfl | rfl
  · have := h rfl
    rw [partD, if_pos rfl, ByteArray.size_extract]; omega
  · rw [partD, if_neg (by decide), if_pos rfl, zeroL_size]
theorem doL_blks {W : Int} {q m : Nat} {D : ByteArray} {L : List ByteArray} (hL : Blks L) (h : W = 1 → D.size = 32 * m) (hW : W = 0 ∨ W = 1 ∨ W = 2) : ∀ k, k ≤ m → Blks (doL W q D L k)
  | 0, _ => hL
  | k + 1, hk => by
    rw [doL]
    split
    · exact doL_blks hL h hW k (by omega)
    · rename_i h0
      exact (doL_blks hL h hW k (by omega)).set _ (partD_size h (by omega) (hW.resolve_left h0))
theorem outL_len {W : Int} {q m : Nat} {L : List ByteArray} (hL : Blks L) (hq : q + m ≤ L.length) : ∀ k, k ≤ m → (outL W q L k).length ≤ 32 * k
  | 0, _ => by simp [outL]
  | k + 1, hk => by
    have := outL_len (W := W) hL hq k (by omega)
    rw [outL, List.length_append]
    have h2 : (if W = 0 then (L.getD (q + k) ⟨#[]⟩).data.toList else []).length ≤ 32 := by
      split
      · have hlt : q + k < L.length := by omega
        rw [List.getD_eq_getElem?_getD, List.getElem?_eq_getElem hlt, Option.getD_some, data_len, hL _ (List.getElem_mem hlt)]; exact Nat.le_refl _
      · simp
    omega
end Go.Proofs.Ytodjlaapmbnahaa
