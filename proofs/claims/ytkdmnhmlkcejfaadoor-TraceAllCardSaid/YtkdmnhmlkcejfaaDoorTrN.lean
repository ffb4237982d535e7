/-
  Rows of acts, and the lists of each.
-/
import Derived.Test.YtkdmnhmlkcejfaaDoorTrI
import Derived.Deep.RegionLaw
namespace Go.Proofs.YtkdmnhmlkcejfaaDoor
open Go.RowKit
set_option linter.unusedVariables false
set_option linter.unusedSimpArgs false

/-- an act, and where its lists lie -/
structure AN where
  t : TA
  a1 : Option Addr
  p1 : Nat
  a2 : Option Addr
  p2 : Nat
def AN.vm (a : AN) : Value := .slice a.a1 a.t.M.length a.p1
def AN.vc (a : AN) : Value := .slice a.a2 a.t.C.length a.p2
def AN.cells (a : AN) : List Value := (actC a.t a.vm a.vc).toList
def AN.own (a : AN) (N : Nat) (w : World) : Prop := RW w N a.t a.vm a.vc
def aCells (l : List AN) : List Value := l.flatMap AN.cells
theorem AN.clen (a : AN) : a.cells.length = 12 := rfl
theorem aCells_append (a b : List AN) : aCells a ++ aCells b = aCells (a ++ b) := by simp [aCells]
theorem aCells_oneC (l : List AN) : ∀ y ∈ aCells l, y.oneCell' = true := by
  intro y hy
  simp only [aCells, List.mem_flatMap] at hy
  obtain ⟨x, _, hx⟩ := hy
  simp [AN.cells, actC, AN.vm, AN.vc] at hx
  rcases hx with rfl | rfl | rfl | rfl | rfl | rfl | rfl | rfl | rfl | rfl | rfl | rfl <;> rfl
theorem aCells_get : ∀ (l : List AN) (j : Nat) (a : AN), l[j]? = some a → ∀ k v, a.cells[k]? = some v → k < 12 → (aCells l)[j * 12 + k]? = some v
  | [], j, t, h, _, _, _, _ => by simp at h
  | x :: r, 0, t, h, k, v, hv, hk => by
    simp at h
    subst h
    simp only [aCells, List.flatMap_cons]
    rw [List.getElem?_append_left (by rw [x.clen]; omega)]
    simpa using hv
  | x :: r, j + 1, t, h, k, v, hv, hk => by
    simp only [aCells, List.flatMap_cons]
    rw [List.getElem?_append_right (by rw [x.clen]; omega)]
    have := aCells_get r j t (by simpa using h) k v hv hk
    simp only [aCells] at this
    rw [← this]
    congr 1
    rw [x.clen]
    omega
theorem aCells_len (l : List AN) : (aCells l).length = l.length * 12 := by
  induction l with
  | nil => rfl
  | cons x r ih =>
    simp only [aCells, List.flatMap_cons, List.length_append, List.length_cons] at ih ⊢
    rw [x.clen, ih]
    omega
theorem own_typeT {w : World} {base n size b : Nat} {e : TypeId} {v : Value} {xs : List Value} (h : w.ownsRow base e size v n xs) (q : v.ownBlock = some b) : ∃ c, w.heap[b]? = some (.cells c e) := by
  rcases h.2 with ⟨rfl, rfl⟩ | ⟨g, cap, cur, rfl, hb, hg, r⟩
  · cases q
  · simp [Value.ownBlock] at q
    subst q
    exact ⟨_, hg⟩
theorem own_moveT {w w' : World} {base n size : Nat} {e : TypeId} {v : Value} {xs : List Value} (h : w.ownsRow base e size v n xs) (hk : ∀ b, v.ownBlock = some b → w'.heap[b]? = w.heap[b]?) : w'.ownsRow base e size v n xs := by
  refine ⟨h.1, ?_⟩
  rcases h.2 with q | ⟨g, cap, cur, rfl, hg, hc, r⟩
  · exact .inl q
  · exact .inr ⟨g, cap, cur, rfl, hg, (hk g rfl).trans hc, r⟩
theorem AN.own.move {a : AN} {N : Nat} {w w' : World} (h : a.own N w) (hk : ∀ (b : Nat) (c : Array Value), w.heap[b]? = some (.cells c 3) → w'.heap[b]? = w.heap[b]?) : a.own N w' :=
  ⟨own_moveT h.m fun b q => by obtain ⟨c, hc⟩ := own_typeT h.m q; exact hk b c hc, own_moveT h.c fun b q => by obtain ⟨c, hc⟩ := own_typeT h.c q; exact hk b c hc⟩
/-- a row of acts of the call's own, and their lists -/
structure ARw (w : World) (N : Nat) (v : Value) (ls : List AN) : Prop where
  row : w.ownsRow N 54 12 v ls.length (aCells ls)
  lists : ∀ a ∈ ls, a.own N w
theorem ARw.below {w w' : World} {N : Nat} {v : Value} {ls : List AN} (h : ARw w N v ls) (hb : Below w.heap.size w w') : ARw w' N v ls := ⟨owns_below h.row hb, fun a ha => RW.below (h.lists a ha) hb⟩
theorem ARw.nil (w : World) (N : Nat) : ARw w N (.slice none 0 0) [] := ⟨World.ownsRow_nil _ _ _ _, by simp⟩
theorem ARw.form {w : World} {N : Nat} {v : Value} {ls : List AN} (h : ARw w N v ls) : ∃ a c, v = .slice a ls.length c ∧ ls.length ≤ c := by
  obtain ⟨a, c, e, h1, -⟩ := (SR.owns h.row).form
  exact ⟨a, c, e, h1⟩
theorem ARw.raise {w : World} {N N' : Nat} {v : Value} {ls : List AN} (h : ARw w N v ls) (hn : N' ≤ N) : ARw w N' v ls := ⟨owns_raise h.row hn, fun a ha => RW.raise (h.lists a ha) hn⟩
theorem AN.own.at_ {a : AN} {N : Nat} {w : World} (h : a.own N w) (h3 : a.t.M.length ≤ 1000 ∧ a.t.C.length ≤ 1000) : ActAt a.t w a.vm a.vc := RW.actAt h (by omega) (by omega)
theorem info_act : (Tryd.prog.info? 54).map (fun i => (i.zero, i.size, i.bytes)) = some (some (.agg #[.int .i64 0, .int .i64 0, .int .i64 0, .int .i64 0, .int .i64 0, .int .i64 0, .int .i64 0, .string ⟨#[]⟩, .bool false, .slice none 0 0, .slice none 0 0, .string ⟨#[]⟩]), 12, 144) := by kernel_rfl
/-- one more act -/
theorem ARw.app {w w2 : World} {N : Nat} {v v2 : Value} {ls : List AN} {a : AN} {o : Obj} (h : ARw w N v ls) (ha : a.own N w) (own2 : w2.ownsRow N 54 12 v2 (ls.length + 1) (aCells ls ++ aCells [a])) (hg : (w.alloc o).grownBy w2 v.ownBlock) : ARw w2 N v2 (ls ++ [a]) := by
  have hmv : ∀ (b : Nat) (c : Array Value), w.heap[b]? = some (.cells c 3) → w2.heap[b]? = w.heap[b]? := by
    intro b c hb
    refine (hg.block b (by simp; have := lt_heap hb; omega) fun e => ?_).trans (Below.heap_alloc _ _ _ (lt_heap hb))
    obtain ⟨c2, hc2⟩ := own_typeT h.row e.symm
    rw [hb] at hc2
    injection hc2 with hc2
    injection hc2 with _ h2
    exact absurd h2 (by decide)
  refine ⟨by rw [List.length_append, ← aCells_append]; exact own2, fun x hx => ?_⟩
  rcases List.mem_append.1 hx with q | q
  · exact AN.own.move (h.lists x q) hmv
  · rw [List.mem_singleton.1 q]; exact AN.own.move ha hmv
/-- the cells of an act in a row -/
theorem ARw.cells {w : World} {N : Nat} {v : Value} {ls : List AN} (h : ARw w N v ls) {j : Nat} {a : AN} (hj : ls[j]? = some a) : ∃ b off cap, v = .slice (some ⟨b, off, none⟩) ls.length cap ∧ b < w.heap.size ∧ ∀ k u, a.cells[k]? = some u → w.cell? ⟨b, off + j * 12 + k, none⟩ = some u := by
  obtain ⟨a0, cap, e, h1, h2, h3, h4⟩ := SR.owns h.row
  have hlt : j < ls.length := (List.getElem?_eq_some_iff.1 hj).1
  rcases h4 with h4 | ⟨b, off, rfl, hb, hc⟩
  · omega
  · refine ⟨b, off, cap, e, hb, fun k u hu => ?_⟩
    have hk : k < 12 := (List.getElem?_eq_some_iff.1 hu).1
    have := hc (j * 12 + k) u (aCells_get ls j a hj k u hu hk)
    rwa [← Nat.add_assoc] at this
/-- the twelve of them -/
theorem ARw.twelve {w : World} {N : Nat} {v : Value} {ls : List AN} (h : ARw w N v ls) {j : Nat} {a : AN} (hj : ls[j]? = some a) : ∃ b off cap, v = .slice (some ⟨b, off, none⟩) ls.length cap ∧ b < w.heap.size ∧
    (w.cell? ⟨b, off + j * 12, none⟩ = some (.int .i64 a.t.W) ∧ w.cell? ⟨b, off + j * 12 + 1, none⟩ = some (.int .i64 a.t.P) ∧ w.cell? ⟨b, off + j * 12 + 2, none⟩ = some (.int .i64 a.t.A) ∧ w.cell? ⟨b, off + j * 12 + 3, none⟩ = some (.int .i64 a.t.B) ∧ w.cell? ⟨b, off + j * 12 + 4, none⟩ = some (.int .i64 a.t.aW) ∧ w.cell? ⟨b, off + j * 12 + 5, none⟩ = some (.int .i64 a.t.aA) ∧ w.cell? ⟨b, off + j * 12 + 6, none⟩ = some (.int .i64 a.t.aL) ∧ w.cell? ⟨b, off + j * 12 + 7, none⟩ = some (.string ⟨a.t.D.toArray⟩) ∧ w.cell? ⟨b, off + j * 12 + 8, none⟩ = some (.bool a.t.u) ∧ w.cell? ⟨b, off + j * 12 + 9, none⟩ = some a.vm ∧ w.cell? ⟨b, off + j * 12 + 10, none⟩ = some a.vc ∧ w.cell? ⟨b, off + j * 12 + 11, none⟩ = some (.string ⟨a.t.S.toArray⟩)) := by
  obtain ⟨b, off, cap, e, hb, hc⟩ := h.cells hj
  exact ⟨b, off, cap, e, hb, hc 0 _ rfl, hc 1 _ rfl, hc 2 _ rfl, hc 3 _ rfl, hc 4 _ rfl, hc 5 _ rfl, hc 6 _ rfl, hc 7 _ rfl, hc 8 _ rfl, hc 9 _ rfl, hc 10 _ rfl, hc 11 _ rfl⟩
end Go.Proofs.YtkdmnhmlkcejfaaDoor
