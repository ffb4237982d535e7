/-
  A voter's log whose entries hold commands: Len, Term, Add.
-/
import Derived.Test.YtkdmnhmlkcejfaaEntC
import Derived.Test.YtkdmnhmlkcejfaaHeld
import Derived.Deep.RegionLaw
import Derived.BigRegion
namespace Go.Proofs.Ytkdmnhmlkcejfaa
open Go.RowKit
set_option linter.unusedVariables false
set_option linter.unusedSimpArgs false

section
variable {P : Program}
theorem run_app2 {t ty e : TypeId} {i : TypeInfo} {z : Value} {size bytes : Nat} (ht : P.underlying t = some (.slice e)) (hi : P.info? e = some i) (hz : i.zero = some z) (hsize : i.size = size) (hby : i.bytes = bytes)
    (hzs : z.cells.size = size) (hsz : 0 < size) (w : World) (base : Nat) (v : Value) (n : Nat) (xs : List Value) (hown : w.ownsRow base e size v n xs) (u : Value) (m : Nat) (news : List Value) (hr : SR w u size m news) (hm0 : 0 < m)
    (h1 : ∀ y ∈ news, y.oneCell' = true) (h63 : n + m ≤ maxLen) (hbytes : (n + m) * bytes ≤ 140737488355328) (hbase : base ≤ w.heap.size) :
    ∃ v' w', (Builtin.append_ #[t, t] ty #[v, u]).run P w = .ok v' w' ∧ w'.ownsRow base e size v' (n + m) (xs ++ news) ∧ w.grownBy w' v.ownBlock ∧ (v'.ownBlock = v.ownBlock ∨ v'.ownBlock = some w.heap.size) := by
  obtain ⟨a, cap, rfl, hmc, hcm, hl, hc⟩ := hr
  have hcells : ∀ ad, a = some ad → ∀ (j : Nat) y, news[j]? = some y → w.cell? (ad.add j) = some y := by
    intro ad e1 j y hj
    rcases hc with h0 | ⟨b, off, e2, _, hcell⟩
    · omega
    · rw [e1] at e2
      cases e2
      rw [add_off]
      exact hcell j y hj
  rcases hc with h0 | ⟨b, off, rfl, _, hcell⟩
  · omega
  · obtain ⟨v', w', hrun, h2, h3, _, h5⟩ := run_append_own_at (P := P) w base t ty e i z size bytes ht hi hz hsize hby hzs hsz v n xs hown ⟨b, off, none⟩ m cap news hl (hcells _ rfl) h1 h63 hbytes hbase
    exact ⟨v', w', hrun, h2, h3, h5⟩
theorem step_app2 {t e : TypeId} {i : TypeInfo} {z : Value} {size bytes : Nat} (ht : P.underlying t = some (.slice e)) (hi : P.info? e = some i) (hz : i.zero = some z) (hsize : i.size = size) (hby : i.bytes = bytes)
    (hzs : z.cells.size = size) (hsz : 0 < size) {ops : Array Oper} {o : Oper} {a : Act} {K : Act → World → Prop} {Q : Exit → Act → World → Prop} {E : Prop} {w : World} (hgd : o.guard = none) (s x : Operand)
    (ho : o.op = .call { callee := .builtin .append, args := #[s, x], argTypes := #[t, t] }) (base : Nat) (v : Value) (n : Nat) (xs : List Value) (hs : a.eval s = v) (hown : w.ownsRow base e size v n xs)
    (u : Value) (m : Nat) (news : List Value) (hx : a.eval x = u) (hr : SR w u size m news) (hm0 : 0 < m)
    (h1 : ∀ y ∈ news, y.oneCell' = true) (h63 : n + m ≤ maxLen) (hbytes : (n + m) * bytes ≤ 140737488355328) (hbase : base ≤ w.heap.size)
    (h : ∀ v' w', w'.ownsRow base e size v' (n + m) (xs ++ news) → w.grownBy w' v.ownBlock → (v'.ownBlock = v.ownBlock ∨ v'.ownBlock = some w.heap.size) → K (a.put o.dst v') w') :
    if Region.wanted o (yielded ops a.tmps) = true then Oper.wp P o a w K Q else E := by
  have hw : Region.wanted o (yielded ops a.tmps) = true := by simp [Region.wanted, hgd]
  rw [if_pos hw]
  obtain ⟨v', w', hrun, h2, h3, h4⟩ := run_app2 (P := P) (ty := o.type) ht hi hz hsize hby hzs hsz w base v n xs hown u m news hr hm0 h1 h63 hbytes hbase
  unfold Oper.wp execOp
  simp only [ho, resolve, invoke, builtin, Sem.run_bind, Sem.run_pure, Result.andThen_ok, List.map_toArray, List.map_cons, List.map_nil, hs, hx, hrun]
  exact h v' w' h2 h3 h4
end
/-- an entry, and where its lists lie -/
structure EN where
  t : Int
  x : Int
  c : CF
  a1 : Option Addr
  q1 : Nat
  a2 : Option Addr
  q2 : Nat
def EN.cells (e : EN) : List Value := [.int .i64 e.t, .int .i64 e.x, .int .i64 e.c.e, .int .i64 e.c.b, .int .i64 e.c.k, .slice e.a1 e.c.M.length e.q1, .slice e.a2 e.c.C.length e.q2]
def enCells (es : List EN) : List Value := es.flatMap EN.cells
theorem enCells_append (a b : List EN) : enCells a ++ enCells b = enCells (a ++ b) := by simp [enCells]
theorem enCells_one (l : List EN) : ∀ y ∈ enCells l, y.oneCell' = true := by
  intro y hy
  simp only [enCells, List.mem_flatMap, EN.cells] at hy
  obtain ⟨x, _, hx⟩ := hy
  simp at hx
  rcases hx with rfl | rfl | rfl | rfl | rfl | rfl | rfl <;> rfl
theorem enCells_get : ∀ (l : List EN) (j : Nat) (e : EN), l[j]? = some e → ∀ k v, e.cells[k]? = some v → k < 7 → (enCells l)[j * 7 + k]? = some v
  | [], j, t, h, _, _, _, _ => by simp at h
  | x :: r, 0, t, h, k, v, hv, hk => by
    simp at h
    subst h
    simp only [enCells, List.flatMap_cons]
    rw [List.getElem?_append_left (by simp [EN.cells]; omega)]
    simpa using hv
  | x :: r, j + 1, t, h, k, v, hv, hk => by
    simp only [enCells, List.flatMap_cons]
    rw [List.getElem?_append_right (by simp [EN.cells]; omega)]
    have := enCells_get r j t (by simpa using h) k v hv hk
    simp only [enCells] at this
    rw [← this]
    congr 1
    simp [EN.cells]
    omega
theorem owns_form3 {w : World} {base size n : Nat} {e : TypeId} {v : Value} {xs : List Value} (h : w.ownsRow base e size v n xs) : ∃ a c, v = .slice a n c := by
  rcases h.2 with ⟨rfl, rfl⟩ | ⟨g, cap, _, rfl, _⟩
  · exact ⟨none, 0, rfl⟩
  · exact ⟨_, cap, rfl⟩
theorem row_otherE {w : World} {base p size n : Nat} {e : TypeId} {v : Value} {xs : List Value} {A : Array Value} {t : TypeId} (h : w.ownsRow base e size v n xs) (hp : w.heap[p]? = some (.cells A t)) (ht : e ≠ t) : v.ownBlock ≠ some p := by
  rcases h.2 with ⟨rfl, rfl⟩ | ⟨g, cap, cur, rfl, hb, hg, r⟩
  · exact fun e => by cases e
  · intro e
    injection e with e
    simp only at e
    subst e
    rw [hg] at hp
    injection hp with hp
    injection hp with _ h2
    exact ht h2
/-- what a further entry leaves -/
structure LKept (w w' : World) (N g : Nat) (v v' : Value) : Prop where
  below : Below N w w'
  size : w.heap.size ≤ w'.heap.size
  block : ∀ k, k < w.heap.size → k ≠ g → some k ≠ v.ownBlock → w'.heap[k]? = w.heap[k]?
  new : v'.ownBlock = v.ownBlock ∨ ∀ k, v'.ownBlock = some k → w.heap.size ≤ k
theorem LKept.drewN {w w' : World} {N g : Nat} {v v' : Value} (h : LKept w w' N g v v') (q : Nat) : LKept w (w'.drewN q) N g v v' := ⟨below_drewN' h.below q, h.size, h.block, h.new⟩
theorem drewN_moreR (w : World) (a b : Nat) : (w.drewN a).drewN b = w.drewN (a + b) := by unfold World.drewN; simp [Nat.add_assoc]
theorem own_typeN {w : World} {base n size b : Nat} {e : TypeId} {v : Value} {xs : List Value} (h : w.ownsRow base e size v n xs) (q : v.ownBlock = some b) : ∃ c, w.heap[b]? = some (.cells c e) := by
  rcases h.2 with ⟨rfl, rfl⟩ | ⟨g, cap, cur, rfl, hb, hg, r⟩
  · cases q
  · simp [Value.ownBlock] at q
    subst q
    exact ⟨_, hg⟩
theorem own_moveN {w w' : World} {base n size : Nat} {e : TypeId} {v : Value} {xs : List Value} (h : w.ownsRow base e size v n xs) (hk : ∀ b, v.ownBlock = some b → w'.heap[b]? = w.heap[b]?) : w'.ownsRow base e size v n xs := by
  refine ⟨h.1, ?_⟩
  rcases h.2 with q | ⟨g, cap, cur, rfl, hg, hc, r⟩
  · exact .inl q
  · exact .inr ⟨g, cap, cur, rfl, hg, (hk g rfl).trans hc, r⟩
/-- an entry's lists lie in rows of their own from so far on -/
def EN.own (e : EN) (N : Nat) (w : World) : Prop := CFO e.c N w (.slice e.a1 e.c.M.length e.q1) (.slice e.a2 e.c.C.length e.q2)
def EN.at_ (e : EN) (w : World) : Prop := CFat e.c w (.slice e.a1 e.c.M.length e.q1) (.slice e.a2 e.c.C.length e.q2)
theorem EN.own.move {e : EN} {N : Nat} {w w' : World} (h : e.own N w) (hk : ∀ (b : Nat) (c : Array Value), w.heap[b]? = some (.cells c 3) → w'.heap[b]? = w.heap[b]?) : e.own N w' :=
  ⟨own_moveN h.1 fun b q => by obtain ⟨c, hc⟩ := own_typeN h.1 q; exact hk b c hc, own_moveN h.2 fun b q => by obtain ⟨c, hc⟩ := own_typeN h.2 q; exact hk b c hc⟩
/-- a log of such entries behind no place -/
structure LogE (w : World) (N g : Nat) (v : Value) (es : List EN) : Prop where
  low : N ≤ g
  obj : w.heap[g]? = some (.cells #[.int .i64 0, .int .i64 0, v] 70)
  row : w.ownsRow N 46 7 v es.length (enCells es)
  lists : ∀ e ∈ es, e.own N w
theorem LogE.below {w w' : World} {N g : Nat} {v : Value} {ts : List EN} (h : LogE w N g v ts) (hb : Below w.heap.size w w') : LogE w' N g v ts := ⟨h.low, below_at hb (lt_heap h.obj) h.obj, owns_below h.row hb, fun e he => CFO.below (h.lists e he) hb⟩
theorem LogE.drewN {w : World} {N g : Nat} {v : Value} {ts : List EN} (h : LogE w N g v ts) (q : Nat) : LogE (w.drewN q) N g v ts := h.below (below_drewN' (Below.refl _ _) q)
theorem LogE.form {w : World} {N g : Nat} {v : Value} {ts : List EN} (h : LogE w N g v ts) : ∃ a c, v = .slice a ts.length c := by
  rcases h.row.2 with ⟨rfl, h0⟩ | ⟨g, cap, _, rfl, _⟩
  · exact ⟨none, 0, by rw [h0]⟩
  · exact ⟨_, cap, rfl⟩
theorem LogE.cells {w : World} {N g : Nat} {v : Value} {ts : List EN} (h : LogE w N g v ts) : w.cell? ⟨g, 0, none⟩ = some (.int .i64 0) ∧ w.cell? ⟨g, 1, none⟩ = some (.int .i64 0) ∧ w.cell? ⟨g, 2, none⟩ = some v ∧ w.frozen? ⟨g, 2, none⟩ = false :=
  ⟨cell_atD h.obj 0 rfl, cell_atD h.obj 1 rfl, cell_atD h.obj 2 rfl, by have := h.obj; simp [World.frozen?, this]⟩
theorem LogE.le {w : World} {N g : Nat} {v : Value} {ts : List EN} (h : LogE w N g v ts) : N ≤ w.heap.size := Nat.le_trans h.low (Nat.le_of_lt (lt_heap h.obj))
theorem rlenE (w : World) (N g : Nat) (v : Value) (ts : List EN) (h : LogE w N g v ts) (hl : ts.length ≤ 1000) : Calls Try.prog 18 #[.pointer (some ⟨g, 0, none⟩)] w fun e w' => e = .returned (.int .i64 ts.length) ∧ ∃ q, w' = w.drewN q := by
  obtain ⟨c0, c1, c2, -⟩ := h.cells
  obtain ⟨a, c, rfl⟩ := h.form
  clear h
  generalize ts.length = n at *
  go_enter Try.func18, Try.ntmps18
  go_wp2_with fail
  go_quiet (fail)
  go_wp2_with fail
  go_ret
  exact ⟨by simp, _, rfl⟩
theorem logE_put {w w2 : World} {N g : Nat} {v v2 : Value} {ts : List EN} {o : Obj} {t : EN} (h : LogE w N g v ts) (ht : t.own N w) (own2 : w2.ownsRow N 46 7 v2 (ts.length + 1) (enCells ts ++ enCells [t])) (hg : (w.alloc o).grownBy w2 v.ownBlock) (hn : v2.ownBlock = v.ownBlock ∨ v2.ownBlock = some (w.alloc o).heap.size) :
    w2.heap[g]? = some (.cells #[.int .i64 0, .int .i64 0, v] 70) ∧ LogE (w2.setCell ⟨g, 2, none⟩ v2) N g v2 (ts ++ [t]) ∧ LKept w (w2.setCell ⟨g, 2, none⟩ v2) N g v v2 := by
  have hvo := row_otherE h.row h.obj (by decide)
  have hlt := lt_heap h.obj
  have hg0 : w.grownBy w2 v.ownBlock := ⟨hg.os, hg.tape, hg.output, Nat.le_trans (by simp) hg.size, fun k hk hne => (hg.block k (by simp; omega) hne).trans (Below.heap_alloc _ _ _ hk)⟩
  have hobj2 : w2.heap[g]? = some (.cells #[.int .i64 0, .int .i64 0, v] 70) := (hg0.block g hlt (fun e => hvo e.symm)).trans h.obj
  have v2o := row_otherE own2 hobj2 (by decide)
  have hset : ∀ k, k ≠ g → (w2.setCell ⟨g, 2, none⟩ v2).heap[k]? = w2.heap[k]? := fun k hk => heap_setCell_other _ _ _ _ hk
  have hgp : w2.grownBy (w2.setCell ⟨g, 2, none⟩ v2) (some g) := ⟨rfl, rfl, rfl, by simp, fun k _ hk => hset k (fun e => hk (by rw [e]))⟩
  have hmv : ∀ (b : Nat) (c : Array Value), w.heap[b]? = some (.cells c 3) → (w2.setCell ⟨g, 2, none⟩ v2).heap[b]? = w.heap[b]? := by
    intro b c hb
    have n1 : b ≠ g := by
      rintro rfl
      rw [h.obj] at hb
      injection hb with hb
      injection hb with _ h2
      exact absurd h2 (by decide)
    refine (hset b n1).trans (hg0.block b (lt_heap hb) fun e => ?_)
    obtain ⟨c2, hc2⟩ := own_typeN h.row e.symm
    rw [hb] at hc2
    injection hc2 with hc2
    injection hc2 with _ h2
    exact absurd h2 (by decide)
  refine ⟨hobj2, ⟨h.low, (heap_setCell_same _ _ _ _ _ _ hobj2).trans rfl, ?_, ?_⟩, ⟨?_, ?_, ?_, ?_⟩⟩
  · have := own2.kept hgp (.inr v2o)
    rw [List.length_append, ← enCells_append]
    exact this
  · intro e he
    rcases List.mem_append.1 he with q | q
    · exact EN.own.move (h.lists e q) hmv
    · rw [List.mem_singleton.1 q]
      exact EN.own.move ht hmv
  · exact ((Below.refl N w).grown hg0 h.le (fun k e => (h.row.lt k e).1)).setCell (p := ⟨g, 2, none⟩) h.low _
  · simpa [World.setCell] using hg0.size
  · exact fun k hk hkg hkv => (hset k hkg).trans (hg0.block k hk hkv)
  · rcases hn with hn | hn
    · exact .inl hn
    · right
      intro k e
      rw [hn] at e
      cases e
      simp
theorem einfoN : (Try.prog.info? 46).map (fun i => (i.zero, i.size, i.bytes)) = some (some (.agg #[.int .i64 0, .int .i64 0, .int .i64 0, .int .i64 0, .int .i64 0, .slice none 0 0, .slice none 0 0]), 7, 88) := by kernel_rfl
/-- a block of another type, behind the log's object and rows -/
theorem LogE.only2 {w w' : World} {N g y : Nat} {v : Value} {ts : List EN} (h : LogE w N g v ts) (ho : Only y w w') (h1 : y ≠ g) (h2 : ∀ b, (v.ownBlock = some b ∨ ∃ e ∈ ts, (Value.slice e.a1 e.c.M.length e.q1).ownBlock = some b ∨ (Value.slice e.a2 e.c.C.length e.q2).ownBlock = some b) → b ≠ y) : LogE w' N g v ts :=
  ⟨h.low, (ho.block g (lt_heap h.obj) (Ne.symm h1)).trans h.obj, own_moveN h.row fun b q => by obtain ⟨c, hc⟩ := own_typeN h.row q; exact ho.block b (lt_heap hc) (h2 b (.inl q)),
   fun e he => ⟨own_moveN (h.lists e he).1 fun b q => by obtain ⟨c, hc⟩ := own_typeN (h.lists e he).1 q; exact ho.block b (lt_heap hc) (h2 b (.inr ⟨e, he, .inl q⟩)), own_moveN (h.lists e he).2 fun b q => by obtain ⟨c, hc⟩ := own_typeN (h.lists e he).2 q; exact ho.block b (lt_heap hc) (h2 b (.inr ⟨e, he, .inr q⟩))⟩⟩
theorem LogE.lts {w : World} {N g : Nat} {v : Value} {ts : List EN} (h : LogE w N g v ts) : ∀ b, (v.ownBlock = some b ∨ ∃ e ∈ ts, (Value.slice e.a1 e.c.M.length e.q1).ownBlock = some b ∨ (Value.slice e.a2 e.c.C.length e.q2).ownBlock = some b) → b < w.heap.size := by
  rintro b (q | ⟨e, he, q | q⟩)
  · obtain ⟨c, hc⟩ := own_typeN h.row q; exact lt_heap hc
  · obtain ⟨c, hc⟩ := own_typeN (h.lists e he).1 q; exact lt_heap hc
  · obtain ⟨c, hc⟩ := own_typeN (h.lists e he).2 q; exact lt_heap hc
set_option maxHeartbeats 6400000 in
set_option maxRecDepth 100000 in
theorem raddE (e : EN) (w : World) (ha : e.at_ w) (hs : short e.c) (hm : mayE e.t e.x e.c = true) (N g : Nat) (v : Value) (ts : List EN) (h : LogE w N g v ts) (hl : ts.length < 300) :
    Calls Try.prog 15 #[.pointer (some ⟨g, 0, none⟩), .agg #[.int .i64 e.t, .int .i64 e.x, .int .i64 e.c.e, .int .i64 e.c.b, .int .i64 e.c.k, .slice e.a1 e.c.M.length e.q1, .slice e.a2 e.c.C.length e.q2]] w fun ev w' => ev = .returned (.tuple #[.int .i64 ((ts.length : Int) + 1), .bool true]) ∧ ∃ b1 p1 b2 p2 v', LogE w' N g v' (ts ++ [⟨e.t, e.x, e.c, b1, p1, b2, p2⟩]) ∧ LKept w w' N g v v' := by
  obtain ⟨i0, hi, hz0, hz1, hz2⟩ := info_parts einfoN
  obtain ⟨av, cv, rfl⟩ := h.form
  obtain ⟨n, hn⟩ : ∃ n, ts.length = n := ⟨_, rfl⟩
  rw [hn] at h hl
  rw [hn]
  have hb := (Below.refl w.heap.size w).alloc (Nat.le_refl _) (.cells #[.int .i64 e.t, .int .i64 e.x, .int .i64 e.c.e, .int .i64 e.c.b, .int .i64 e.c.k, .slice e.a1 e.c.M.length e.q1, .slice e.a2 e.c.C.length e.q2] 46)
  have hx := heap_alloc_self w (.cells #[.int .i64 e.t, .int .i64 e.x, .int .i64 e.c.e, .int .i64 e.c.b, .int .i64 e.c.k, .slice e.a1 e.c.M.length e.q1, .slice e.a2 e.c.C.length e.q2] 46)
  have h1 := h.below hb
  have ha1 := CFat.below ha hb
  have HU := Lib.hid (And.intro (lt_heap h.obj) h.lts)
  have HW := Lib.hid (And.intro h.le (fun (x y : World) (v' : Value) (hb : Below w.heap.size w x) (hk : LKept x y N g (.slice av n cv) v') => (show LKept w y N g (.slice av n cv) v' from ⟨(hb.mono h.le).trans hk.below, Nat.le_trans hb.size hk.size, fun k hlt h2 h3 => (hk.block k (Nat.lt_of_lt_of_le hlt hb.size) h2 h3).trans (hb.block k hlt), hk.new.imp id fun f k e => Nat.le_trans hb.size (f k e)⟩)))
  clear h ha
  go_enter Try.func15, Try.ntmps15
  go_upto_region 1 with fail
  generalize w.alloc (.cells #[.int .i64 e.t, .int .i64 e.x, .int .i64 e.c.e, .int .i64 e.c.b, .int .i64 e.c.k, .slice e.a1 e.c.M.length e.q1, .slice e.a2 e.c.C.length e.q2] 46) = w1 at *
  have d0 := cell_atD hx 0 (v := .int .i64 e.t) rfl
  have d1 := cell_atD hx 1 (v := .int .i64 e.x) rfl
  have d2 := cell_atD hx 2 (v := .int .i64 e.c.e) rfl
  have d3 := cell_atD hx 3 (v := .int .i64 e.c.b) rfl
  have d4 := cell_atD hx 4 (v := .int .i64 e.c.k) rfl
  have d5 := cell_atD hx 5 (v := .slice e.a1 e.c.M.length e.q1) rfl
  have d6 := cell_atD hx 6 (v := .slice e.a2 e.c.C.length e.q2) rfl
  obtain ⟨g0, g1, g2, gf⟩ := h1.cells
  have ce := emayE e.t e.x e.c e.a1 e.a2 e.q1 e.q2 w1 ha1
  rw [hm] at ce
  have HX := Lib.hid (And.intro hx (And.intro hb (And.intro h1 ha1)))
  have HN := Lib.hid hn
  have HM := Lib.hid hm
  clear hx hb h1 ha1 hn hm
  go_wp2_with fail
  refine Calls.mono ce ?_
  rintro ev w2 ⟨rfl, h2⟩
  have hx := below_at h2 (lt_heap HX.out.1) HX.out.1
  have hb := HX.out.2.1.trans (h2.mono HX.out.2.1.size)
  have h3 := HX.out.2.2.1.below h2
  have ha := CFat.below HX.out.2.2.2 h2
  clear d0 d1 d2 d3 d4 d5 d6 h2 HX g0 g1 g2 gf ce
  have d0 := cell_atD hx 0 (v := .int .i64 e.t) rfl
  have d1 := cell_atD hx 1 (v := .int .i64 e.x) rfl
  have d2 := cell_atD hx 2 (v := .int .i64 e.c.e) rfl
  have d3 := cell_atD hx 3 (v := .int .i64 e.c.b) rfl
  have d4 := cell_atD hx 4 (v := .int .i64 e.c.k) rfl
  have d5 := cell_atD hx 5 (v := .slice e.a1 e.c.M.length e.q1) rfl
  have d6 := cell_atD hx 6 (v := .slice e.a2 e.c.C.length e.q2) rfl
  obtain ⟨g0, g1, g2, gf⟩ := h3.cells
  have co := ocmd e.x e.c e.a1 e.a2 e.q1 e.q2 w2 ha hs
  have HX := Lib.hid (And.intro hx (And.intro hb (And.intro h3 ha)))
  have hzs : w.heap.size + 1 ≤ w2.heap.size := by have := lt_heap hx; omega
  clear hx hb h3 ha
  go_wp2_with fail
  refine Calls.mono co ?_
  rintro ev w3 ⟨b1, p1, b2, p2, rfl, ho, h2⟩
  replace ho := CFO.base ho hzs
  have hx := below_at h2 (lt_heap HX.out.1) HX.out.1
  have hb := HX.out.2.1.trans (h2.mono HX.out.2.1.size)
  have h3 := HX.out.2.2.1.below h2
  have ha := CFat.below HX.out.2.2.2 h2
  have hzs3 : w.heap.size + 1 ≤ w3.heap.size := Nat.le_trans hzs h2.size
  clear d0 d1 d2 d3 d4 d5 d6 h2 HX g0 g1 g2 gf co hzs ha
  have d0 := cell_atD hx 0 (v := .int .i64 e.t) rfl
  have d1 := cell_atD hx 1 (v := .int .i64 e.x) rfl
  have d2 := cell_atD hx 2 (v := .int .i64 e.c.e) rfl
  have d3 := cell_atD hx 3 (v := .int .i64 e.c.b) rfl
  have d4 := cell_atD hx 4 (v := .int .i64 e.c.k) rfl
  have d5 := cell_atD hx 5 (v := .slice e.a1 e.c.M.length e.q1) rfl
  have d6 := cell_atD hx 6 (v := .slice e.a2 e.c.C.length e.q2) rfl
  have fz : ∀ i, w3.frozen? ⟨w.heap.size, i, none⟩ = false := fun i => by simp [World.frozen?, hx]
  have k1 : (w3.setCell ⟨w.heap.size, 1, none⟩ (.int .i64 e.x)).heap[w.heap.size]? = some (.cells #[.int .i64 e.t, .int .i64 e.x, .int .i64 e.c.e, .int .i64 e.c.b, .int .i64 e.c.k, .slice e.a1 e.c.M.length e.q1, .slice e.a2 e.c.C.length e.q2] 46) := heap_set_self hx 1 _
  have k2 : ((w3.setCell ⟨w.heap.size, 1, none⟩ (.int .i64 e.x)).setCell ⟨w.heap.size, 2, none⟩ (.int .i64 e.c.e)).heap[w.heap.size]? = some (.cells #[.int .i64 e.t, .int .i64 e.x, .int .i64 e.c.e, .int .i64 e.c.b, .int .i64 e.c.k, .slice e.a1 e.c.M.length e.q1, .slice e.a2 e.c.C.length e.q2] 46) := heap_set_self k1 2 _
  have k3 : (((w3.setCell ⟨w.heap.size, 1, none⟩ (.int .i64 e.x)).setCell ⟨w.heap.size, 2, none⟩ (.int .i64 e.c.e)).setCell ⟨w.heap.size, 3, none⟩ (.int .i64 e.c.b)).heap[w.heap.size]? = some (.cells #[.int .i64 e.t, .int .i64 e.x, .int .i64 e.c.e, .int .i64 e.c.b, .int .i64 e.c.k, .slice e.a1 e.c.M.length e.q1, .slice e.a2 e.c.C.length e.q2] 46) := heap_set_self k2 3 _
  have k4 : ((((w3.setCell ⟨w.heap.size, 1, none⟩ (.int .i64 e.x)).setCell ⟨w.heap.size, 2, none⟩ (.int .i64 e.c.e)).setCell ⟨w.heap.size, 3, none⟩ (.int .i64 e.c.b)).setCell ⟨w.heap.size, 4, none⟩ (.int .i64 e.c.k)).heap[w.heap.size]? = some (.cells #[.int .i64 e.t, .int .i64 e.x, .int .i64 e.c.e, .int .i64 e.c.b, .int .i64 e.c.k, .slice e.a1 e.c.M.length e.q1, .slice e.a2 e.c.C.length e.q2] 46) := heap_set_self k3 4 _
  have k5 : (((((w3.setCell ⟨w.heap.size, 1, none⟩ (.int .i64 e.x)).setCell ⟨w.heap.size, 2, none⟩ (.int .i64 e.c.e)).setCell ⟨w.heap.size, 3, none⟩ (.int .i64 e.c.b)).setCell ⟨w.heap.size, 4, none⟩ (.int .i64 e.c.k)).setCell ⟨w.heap.size, 5, none⟩ (.slice b1 e.c.M.length p1)).heap[w.heap.size]? = some (.cells #[.int .i64 e.t, .int .i64 e.x, .int .i64 e.c.e, .int .i64 e.c.b, .int .i64 e.c.k, .slice b1 e.c.M.length p1, .slice e.a2 e.c.C.length e.q2] 46) := heap_set_self k4 5 _
  have k6 : ((((((w3.setCell ⟨w.heap.size, 1, none⟩ (.int .i64 e.x)).setCell ⟨w.heap.size, 2, none⟩ (.int .i64 e.c.e)).setCell ⟨w.heap.size, 3, none⟩ (.int .i64 e.c.b)).setCell ⟨w.heap.size, 4, none⟩ (.int .i64 e.c.k)).setCell ⟨w.heap.size, 5, none⟩ (.slice b1 e.c.M.length p1)).setCell ⟨w.heap.size, 6, none⟩ (.slice b2 e.c.C.length p2)).heap[w.heap.size]? = some (.cells #[.int .i64 e.t, .int .i64 e.x, .int .i64 e.c.e, .int .i64 e.c.b, .int .i64 e.c.k, .slice b1 e.c.M.length p1, .slice b2 e.c.C.length p2] 46) := heap_set_self k5 6 _
  have kI := Lib.hid k6
  have kO := Lib.hid (show Only (w.heap.size) w3 ((((((w3.setCell ⟨w.heap.size, 1, none⟩ (.int .i64 e.x)).setCell ⟨w.heap.size, 2, none⟩ (.int .i64 e.c.e)).setCell ⟨w.heap.size, 3, none⟩ (.int .i64 e.c.b)).setCell ⟨w.heap.size, 4, none⟩ (.int .i64 e.c.k)).setCell ⟨w.heap.size, 5, none⟩ (.slice b1 e.c.M.length p1)).setCell ⟨w.heap.size, 6, none⟩ (.slice b2 e.c.C.length p2)) from (((((((Only.refl _ _).set 1 _).set 2 _).set 3 _).set 4 _).set 5 _).set 6 _))
  clear k1 k2 k3 k4 k5 k6
  have hobj := h3.obj
  have hgl := h3.low
  have HX := Lib.hid (And.intro hb (And.intro h3 (And.intro ho hzs3)))
  clear hx hb h3 ho hzs3 hobj hgl
  go_upto_region 4 with fail
  generalize ((((((w3.setCell ⟨w.heap.size, 1, none⟩ (.int .i64 e.x)).setCell ⟨w.heap.size, 2, none⟩ (.int .i64 e.c.e)).setCell ⟨w.heap.size, 3, none⟩ (.int .i64 e.c.b)).setCell ⟨w.heap.size, 4, none⟩ (.int .i64 e.c.k)).setCell ⟨w.heap.size, 5, none⟩ (.slice b1 e.c.M.length p1)).setCell ⟨w.heap.size, 6, none⟩ (.slice b2 e.c.C.length p2)) = w4 at *
  clear fz d0 d1 d2 d3 d4 d5 d6
  obtain ⟨hb, h3, ho, hzs3⟩ := HX.out
  clear HX
  have hx := kI.out
  have h4 : LogE w4 N g (.slice av n cv) ts := h3.only2 kO.out (by have := HU.out.1; omega) (fun b hb => by have := HU.out.2 b hb; omega)
  have ho4 : CFO e.c (w.heap.size + 1) w4 (.slice b1 e.c.M.length p1) (.slice b2 e.c.C.length p2) := ho.only kO.out (by omega)
  have hb4 : Below w.heap.size w w4 := hb.trans (kO.out.below (B := w.heap.size) (by omega) hb.size)
  clear hb h3 ho kI kO hzs3
  have d0 := cell_atD hx 0 (v := .int .i64 e.t) rfl
  have d1 := cell_atD hx 1 (v := .int .i64 e.x) rfl
  have d2 := cell_atD hx 2 (v := .int .i64 e.c.e) rfl
  have d3 := cell_atD hx 3 (v := .int .i64 e.c.b) rfl
  have d4 := cell_atD hx 4 (v := .int .i64 e.c.k) rfl
  have d5 := cell_atD hx 5 (v := .slice b1 e.c.M.length p1) rfl
  have d6 := cell_atD hx 6 (v := .slice b2 e.c.C.length p2) rfl
  obtain ⟨g0, g1, g2, gf⟩ := h4.cells
  have hle := h4.le
  have hlt3 : w.heap.size ≤ w4.heap.size := hb4.size
  have hee : EN.own ⟨e.t, e.x, e.c, b1, p1, b2, p2⟩ N w4 := CFO.base ho4 (Nat.le_trans HW.out.1 (Nat.le_succ _))
  have HL := Lib.hid h4
  have HE := Lib.hid hee
  have HB4 := Lib.hid hb4
  have ho7 := HL.out.row
  rw [HN.out] at ho7
  have HO7 := Lib.hid ho7
  have gza : (w4.alloc (.cells #[.int .i64 e.t, .int .i64 e.x, .int .i64 e.c.e, .int .i64 e.c.b, .int .i64 e.c.k, .slice b1 e.c.M.length p1, .slice b2 e.c.C.length p2] 46)).cell? ⟨g, 2, none⟩ = some (.slice av n cv) := (World.cell?_alloc_lt w4 _ ⟨g, 2, none⟩ (lt_heap HL.out.obj)).trans g2
  have HLD := Lib.hid (HL.out.below (below_drew' (Below.refl _ _)))
  have HED := Lib.hid (CFO.below HE.out (below_drew' (Below.refl _ _)))
  clear ho7 h4 hee hb4 hx ho4
  go_region_law (first | (refine step_app2 Try.underlying25 hi hz0 hz1 hz2 rfl (by decide) rfl (.tmp 29) (.tmp 31) rfl N _ n (enCells ts) rfl ((owns_below HO7.out (Below.drew (Below.refl _ _))).alloc _) _ 1 (enCells [⟨e.t, e.x, e.c, b1, p1, b2, p2⟩]) rfl (SR.lit _ _ #[.int .i64 e.t, .int .i64 e.x, .int .i64 e.c.e, .int .i64 e.c.b, .int .i64 e.c.k, .slice b1 e.c.M.length p1, .slice b2 e.c.C.length p2] 7 1 (by decide) rfl) (by decide) (enCells_one _) (by unfold maxLen; omega) (by omega) (by simp; omega) ?_; intro v2 w5 own2 hg2 hn2; obtain ⟨a2, c2, rfl⟩ := owns_form3 own2; have LP := logE_put (v2 := .slice a2 (n + 1) c2) HLD.out HED.out (by rw [HN.out]; exact own2) hg2 hn2; have y2 := cell_atD LP.1 2 (v := .slice av n cv) rfl; have f2 : w5.frozen? ⟨g, 2, none⟩ = false := (by have := LP.1; simp [World.frozen?, this]); have HLP := Lib.hid LP; clear LP own2 hg2 hn2))
  all_goals
    have HF := Lib.hid (HW.out.2 _ _ _ (below_drew' HB4.out) HLP.out.2.2)
    have hL5 := HLP.out.2.1
    have hln : (ts ++ [(⟨e.t, e.x, e.c, b1, p1, b2, p2⟩ : EN)]).length = n + 1 := by rw [List.length_append, HN.out]; rfl
    clear y2 f2 HLP HLD HED gza HO7 HL HE d0 d1 d2 d3 d4 d5 d6 g0 g1 g2 gf
    generalize w5.setCell ⟨g, 2, none⟩ (.slice a2 (n + 1) c2) = W5 at *
    have cl := rlenE W5 N g _ _ hL5 (by rw [hln]; omega)
    rw [hln] at cl
    have HL5 := Lib.hid hL5
    clear hL5 hln
    go_wp2_with fail
    refine Calls.mono cl ?_
    rintro ev w6 ⟨rfl, q, rfl⟩
    go_wp2_with fail
    go_returns
    exact ⟨by simp, _, _, _, _, _, HL5.out.drewN q, HF.out.drewN q⟩
end Go.Proofs.Ytkdmnhmlkcejfaa
