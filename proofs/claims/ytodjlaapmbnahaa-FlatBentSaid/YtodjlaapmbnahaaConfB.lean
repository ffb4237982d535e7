/-
  A configuration near one that may be: Near.
-/
import Derived.Test.YtodjlaapmbnahaaConf
import Derived.Test.YtodjlaapmbnahaaFits
import Derived.Deep.RegionLaw
import Derived.Deep.CutBlock
import Derived.Deep.AppendLies
namespace Go.Proofs.Ytodjlaapmbnahaa
open Go.RowKit
set_option linter.unusedVariables false

section
variable {P : Program}
/-- append onto a row of the call's own, as one step of a region that draws -/
theorem step_app {t e : TypeId} {i : TypeInfo} {z : Value} {size bytes : Nat} (ht : P.underlying t = some (.slice e)) (hi : P.info? e = some i) (hz : i.zero = some z) (hsize : i.size = size) (hby : i.bytes = bytes)
    (hzs : z.cells.size = size) (hsz : 0 < size) {ops : Array Oper} {o : Oper} {a : Act} {K : Act → World → Prop} {Q : Exit → Act → World → Prop} {E : Prop} {w : World} (hgd : o.guard = none) (s x : Operand)
    (ho : o.op = .call { callee := .builtin .append, args := #[s, x], argTypes := #[t, t] }) (base : Nat) (v : Value) (n : Nat) (xs : List Value) (hs : a.eval s = v) (hown : w.ownsRow base e size v n xs)
    (u : Value) (m : Nat) (news : List Value) (hx : a.eval x = u) (hr : SR w u size m news)
    (h1 : ∀ y ∈ news, y.oneCell' = true) (h63 : n + m ≤ maxLen) (hbytes : (n + m) * bytes ≤ 140737488355328) (hbase : base ≤ w.heap.size)
    (h : ∀ v' w', w'.ownsRow base e size v' (n + m) (xs ++ news) → w.grownBy w' v.ownBlock → K (a.put o.dst v') w') :
    if Region.wanted o (yielded ops a.tmps) = true then Oper.wp P o a w K Q else E := by
  have hw : Region.wanted o (yielded ops a.tmps) = true := by simp [Region.wanted, hgd]
  rw [if_pos hw]
  obtain ⟨v', w', hrun, h2, h3⟩ := run_app (P := P) (ty := o.type) ht hi hz hsize hby hzs hsz w base v n xs hown u m news hr h1 h63 hbytes hbase
  unfold Oper.wp execOp
  simp only [ho, resolve, invoke, builtin, Sem.run_bind, Sem.run_pure, Result.andThen_ok, List.map_toArray, List.map_cons, List.map_nil, hs, hx, hrun]
  exact h v' w' h2 h3
end
theorem info_i64 : (Try.prog.info? 3).map (fun i => (i.zero, i.size, i.bytes)) = some (some (.int .i64 0), 1, 8) := by kernel_rfl
/-- a configuration's cells -/
def confA (e b k : Int) (m c : Value) : Array Value := #[.int .i64 e, .int .i64 b, .int .i64 k, m, c]
/-- up to four numbers, of which three bits are kept -/
def low4 (l : List Int) : List Int := (l.take 4).map (· % 8)
theorem two_blocks (w : World) (o p : Obj) : ((w.alloc o).alloc p).heap[w.heap.size]? = some o ∧ ((w.alloc o).alloc p).heap[w.heap.size + 1]? = some p := by
  constructor
  · rw [Below.heap_alloc (w.alloc o) p w.heap.size (by simp)]
    exact heap_alloc_self w o
  · have := heap_alloc_self (w.alloc o) p
    simpa using this
theorem owns_form {w : World} {base n size : Nat} {e : TypeId} {v : Value} {xs : List Value} (h : w.ownsRow base e size v n xs) : ∃ a cap, v = .slice a n cap := by
  obtain ⟨a, cap, e, _⟩ := (SR.owns h).form
  exact ⟨a, cap, e⟩
theorem grown_block {x w w2 : World} {o ob : Obj} {row : Option Nat} {Y : Nat} (hg : x.grownBy w2 row) (hx : x.heap = (w.alloc o).heap) (hY : w.heap[Y]? = some ob) (hne : some Y ≠ row) : w2.heap[Y]? = some ob := by
  have hl := lt_heap hY
  rw [hg.block Y (by rw [hx]; simp; omega) hne, hx, Below.heap_alloc w o Y hl, hY]
theorem grown_only {x w w1 w2 : World} {o : Obj} {row : Option Nat} {Y : Nat} (hg : x.grownBy w2 row) (hx : x.heap = (w.alloc o).heap ∧ x.os = w.os ∧ x.tape = w.tape ∧ x.output = w.output) (ho : Only Y w1 w) (hr : ∀ k, row = some k → w1.heap.size ≤ k) : Only Y w1 w2 := by
  have h1 : Only Y w1 x := ⟨hx.2.1.trans ho.os, hx.2.2.1.trans ho.tape, hx.2.2.2.trans ho.output, by rw [hx.1]; have := ho.size; simp; omega, fun k hk hb => by
    rw [hx.1, Below.heap_alloc w o k (Nat.lt_of_lt_of_le hk ho.size)]; exact ho.block k hk hb⟩
  exact h1.grown hg hr
theorem low_snoc (l : List Int) (k : Nat) (hk : k < l.length) : nCells ((l.take k).map (· % 8)) ++ [.int .i64 (l.getD k 0 % 8)] = nCells ((l.take (k + 1)).map (· % 8)) := by
  have e : l.getD k 0 = l[k] := by simp [List.getD, hk]
  rw [List.take_succ_eq_append_getElem hk, e]
  simp only [nCells, List.map_append, List.map_cons, List.map_nil]
theorem low4_len (l : List Int) : (low4 l).length = min 4 l.length := by simp [low4]
theorem sr_block {w : World} {g n : Nat} {cs : Array Value} {t : TypeId} {fr : Nat × Nat} (h : w.heap[g]? = some (.cells cs t fr)) (hn : cs.size = n) (hm : n ≤ maxLen) : SR w (.slice (some ⟨g, 0, none⟩) n n) 1 n cs.toList :=
  ⟨_, n, rfl, Nat.le_refl _, hm, by simpa using hn, .inr ⟨g, 0, rfl, lt_heap h, fun j u hj => by
    rw [Nat.zero_add, cell_of_row w g j cs t fr h]
    simpa using hj⟩⟩
/-- the slice reads so, whatever becomes of block Y -/
def SRO (Y : Nat) (w : World) (v : Value) (size n : Nat) (xs : List Value) : Prop := ∀ wz, Only Y w wz → SR wz v size n xs
theorem SRO.now {Y : Nat} {w : World} {v : Value} {size n : Nat} {xs : List Value} (h : SRO Y w v size n xs) : SR w v size n xs := h w (Only.refl _ _)
theorem SRO.only {Y : Nat} {w w' : World} {v : Value} {size n : Nat} {xs : List Value} (h : SRO Y w v size n xs) (ho : Only Y w w') : SRO Y w' v size n xs := fun wz hz => h wz (ho.trans hz)
theorem only_same {Y : Nat} {w w' : World} (h : SameHeap w w') : Only Y w w' := ⟨h.2.1, h.2.2.1, h.2.2.2, by rw [h.1]; exact Nat.le_refl _, fun k _ _ => by rw [h.1]⟩
theorem sro_block {w : World} {Y g n : Nat} {cs : Array Value} {t : TypeId} {fr : Nat × Nat} (h : w.heap[g]? = some (.cells cs t fr)) (hn : cs.size = n) (hm : n ≤ maxLen) (hne : g ≠ Y) : SRO Y w (.slice (some ⟨g, 0, none⟩) n n) 1 n cs.toList :=
  fun wz ho => sr_block ((ho.block g (lt_heap h) hne).trans h) hn hm
theorem set_far {w : World} {g : Nat} {ob : Obj} {p : Addr} {u : Value} (h : w.heap[g]? = some ob) (hne : g ≠ p.block) : (w.setCell p u).heap[g]? = some ob := (Below.heap_setCell w p u g hne).trans h
theorem alloc_far {w : World} {g : Nat} {ob o : Obj} (h : w.heap[g]? = some ob) : (w.alloc o).heap[g]? = some ob := (Below.heap_alloc w o g (lt_heap h)).trans h
section
variable {X : Nat} {E G K P Q : Int} {A : Array Value} {w wc : World} {v1 v2 : Value}
end
/-- what Near makes of a configuration -/
def nearE (e odd : Int) : Int := if odd % 16 = 4 then 0 else if odd % 16 = 12 then e else e % 32
def nearB (b odd : Int) : Int := if odd % 16 = 4 then 0 else if odd % 16 = 8 then b else 5 + b % 2
def nearK (k odd : Int) : Int := if odd % 16 = 4 then 0 else k % 32 + 1
def badN (M C : List Int) (odd : Int) : Bool := !(nodesB (low4 M) 0 && nodesB (low4 C) 1) && !decide (odd % 4 = 0)
def nearM (b odd : Int) (M C : List Int) : List Int := if odd % 16 = 4 then [] else if badN M C odd then [b / 2 % 4] else low4 M
def nearC (b odd : Int) (M C : List Int) : List Int := if odd % 16 = 4 then [] else if badN M C odd then [b / 8 % 4, 4] else low4 C
def NearPost (e b k odd : Int) (M C : List Int) (w : World) (ev : Ending) (w' : World) : Prop :=
  ∃ v1 v2, ev = .returned (.agg (confA (nearE e odd) (nearB b odd) (nearK k odd) v1 v2)) ∧ SR w' v1 1 (nearM b odd M C).length (nCells (nearM b odd M C)) ∧ SR w' v2 1 (nearC b odd M C).length (nCells (nearC b odd M C)) ∧ Below w.heap.size w w'
end Go.Proofs.Ytodjlaapmbnahaa
