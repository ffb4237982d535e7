/-
  Several texts, laid together.
-/
import Derived.Test.YtjaaddjbmimjoaaMh15
import Derived.Test.YtjaaddjbmimjoaaMh1
import Derived.Deep.RegionLaw
import Derived.BigRegion
/-
  A voter's log whose entries hold commands: Len, Term, Add.
-/




namespace Go.Proofs.Ytjaaddjbmimjoaa
open Go.RowKit
set_option linter.unusedVariables false
set_option linter.unusedSimpArgs false

section
variable {P : Program}
end
/-- an entry, and where its lists lie -/
structure EN where
  t : Int
  x : Int
  c : CF
  a1 : Option Addr
  q1 : Nat
  a2 : Option Addr
  q2 : Nat
def EN.cells (e : EN) : List Value := [.int .i64 e.t, .int .i64 e.x, .int .i64 e.c.e, .int .i64 e.c.b, .int .i64 e.c.k, .slice e.a1 e.c.M.length e.q1, .slice e.a2 e.c.C.length e.q2]
def enCells (es : List EN) : List Value := es.flatMap EN.cells
theorem owns_form3 {w : World} {base size n : Nat} {e : TypeId} {v : Value} {xs : List Value} (h : w.ownsRow base e size v n xs) : ∃ a c, v = .slice a n c := by
  rcases h.2 with ⟨rfl, rfl⟩ | ⟨g, cap, _, rfl, _⟩
  · exact ⟨none, 0, rfl⟩
  · exact ⟨_, cap, rfl⟩
/-- what a further entry leaves -/
structure LKept (w w' : World) (N g : Nat) (v v' : Value) : Prop where
  below : Below N w w'
  size : w.heap.size ≤ w'.heap.size
  block : ∀ k, k < w.heap.size → k ≠ g → some k ≠ v.ownBlock → w'.heap[k]? = w.heap[k]?
  new : v'.ownBlock = v.ownBlock ∨ ∀ k, v'.ownBlock = some k → w.heap.size ≤ k
theorem LKept.drewN {w w' : World} {N g : Nat} {v v' : Value} (h : LKept w w' N g v v') (q : Nat) : LKept w (w'.drewN q) N g v v' := ⟨below_drewN' h.below q, h.size, h.block, h.new⟩
theorem own_typeN {w : World} {base n size b : Nat} {e : TypeId} {v : Value} {xs : List Value} (h : w.ownsRow base e size v n xs) (q : v.ownBlock = some b) : ∃ c, w.heap[b]? = some (.cells c e) := by
  rcases h.2 with ⟨rfl, rfl⟩ | ⟨g, cap, cur, rfl, hb, hg, r⟩
  · cases q
  · simp [Value.ownBlock] at q
    subst q
    exact ⟨_, hg⟩
theorem own_moveN {w w' : World} {base n size : Nat} {e : TypeId} {v : Value} {xs : List Value} (h : w.ownsRow base e size v n xs) (hk : ∀ b, v.ownBlock = some b → w'.heap[b]? = w.heap[b]?) : w'.ownsRow base e size v n xs := by
  refine ⟨h.1, ?_⟩
  rcases h.2 with q | ⟨g, cap, cur, rfl, hg, hc, r⟩
  · exact .inl q
  · exact .inr ⟨g, cap, cur, rfl, hg, (hk g rfl).trans hc, r⟩
/-- an entry's lists lie in rows of their own from so far on -/
def EN.own (e : EN) (N : Nat) (w : World) : Prop := CFO e.c N w (.slice e.a1 e.c.M.length e.q1) (.slice e.a2 e.c.C.length e.q2)
def EN.at_ (e : EN) (w : World) : Prop := CFat e.c w (.slice e.a1 e.c.M.length e.q1) (.slice e.a2 e.c.C.length e.q2)
theorem EN.own.move {e : EN} {N : Nat} {w w' : World} (h : e.own N w) (hk : ∀ (b : Nat) (c : Array Value), w.heap[b]? = some (.cells c 3) → w'.heap[b]? = w.heap[b]?) : e.own N w' :=
  ⟨own_moveN h.1 fun b q => by obtain ⟨c, hc⟩ := own_typeN h.1 q; exact hk b c hc, own_moveN h.2 fun b q => by obtain ⟨c, hc⟩ := own_typeN h.2 q; exact hk b c hc⟩
/-- a log of such entries behind no place -/
structure LogE (w : World) (N g : Nat) (v : Value) (es : List EN) : Prop where
  low : N ≤ g
  obj : w.heap[g]? = some (.cells #[.int .i64 0, .int .i64 0, v] 124)
  row : w.ownsRow N 70 7 v es.length (enCells es)
  lists : ∀ e ∈ es, e.own N w
theorem LogE.below {w w' : World} {N g : Nat} {v : Value} {ts : List EN} (h : LogE w N g v ts) (hb : Below w.heap.size w w') : LogE w' N g v ts := ⟨h.low, below_at hb (lt_heap h.obj) h.obj, owns_below h.row hb, fun e he => CFO.below (h.lists e he) hb⟩
theorem LogE.drewN {w : World} {N g : Nat} {v : Value} {ts : List EN} (h : LogE w N g v ts) (q : Nat) : LogE (w.drewN q) N g v ts := h.below (below_drewN' (Below.refl _ _) q)
theorem LogE.form {w : World} {N g : Nat} {v : Value} {ts : List EN} (h : LogE w N g v ts) : ∃ a c, v = .slice a ts.length c := by
  rcases h.row.2 with ⟨rfl, h0⟩ | ⟨g, cap, _, rfl, _⟩
  · exact ⟨none, 0, by rw [h0]⟩
  · exact ⟨_, cap, rfl⟩
theorem LogE.cells {w : World} {N g : Nat} {v : Value} {ts : List EN} (h : LogE w N g v ts) : w.cell? ⟨g, 0, none⟩ = some (.int .i64 0) ∧ w.cell? ⟨g, 1, none⟩ = some (.int .i64 0) ∧ w.cell? ⟨g, 2, none⟩ = some v ∧ w.frozen? ⟨g, 2, none⟩ = false :=
  ⟨cell_atD h.obj 0 rfl, cell_atD h.obj 1 rfl, cell_atD h.obj 2 rfl, by have := h.obj; simp [World.frozen?, this]⟩
end Go.Proofs.Ytjaaddjbmimjoaa
