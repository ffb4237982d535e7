/-
  tarnlaw40.events: its rows in memory.
-/
import Derived.Test.YtodjlaapmbnahaaSfB
import Derived.Maps.AppendAt
namespace Go.Proofs.Ytodjlaapmbnahaa
open Go.RowKit
set_option linter.unusedVariables false
set_option linter.unusedSimpArgs false

section
variable {P : Program}
theorem step_appS {t e : TypeId} {i : TypeInfo} {z : Value} {size bytes : Nat} (ht : P.underlying t = some (.slice e)) (hi : P.info? e = some i) (hz : i.zero = some z) (hsize : i.size = size) (hby : i.bytes = bytes)
    (hzs : z.cells.size = size) (hsz : 0 < size) {ops : Array Oper} {o : Oper} {a : Act} {K : Act → World → Prop} {Q : Exit → Act → World → Prop} {E : Prop} {w : World} (hgd : o.guard = none) (s x : Operand)
    (ho : o.op = .call { callee := .builtin .append, args := #[s, x], argTypes := #[t, t] }) (base : Nat) (v : Value) (n : Nat) (xs : List Value) (hs : a.eval s = v) (hown : w.ownsRow base e size v n xs)
    (ad : Addr) (cap m : Nat) (news : List Value) (hx : a.eval x = .slice (some ad) m cap) (hr : SR w (.slice (some ad) m cap) size m news)
    (h1 : ∀ y ∈ news, y.oneCell' = true) (h63 : n + m ≤ maxLen) (hbytes : (n + m) * bytes ≤ 140737488355328) (hbase : base ≤ w.heap.size) (hm : 0 < m)
    (h : ∀ v' w', w'.ownsRow base e size v' (n + m) (xs ++ news) → w.grownBy w' v.ownBlock → (v'.ownBlock = v.ownBlock ∨ v'.ownBlock = some w.heap.size) → K (a.put o.dst v') w') :
    if Region.wanted o (yielded ops a.tmps) = true then Oper.wp P o a w K Q else E := by
  rw [if_pos (by simp [Region.wanted, hgd])]
  obtain ⟨a', cap', he, hmc, hcm, hl, hc⟩ := hr
  injection he with e1 _ e2
  subst e1 e2
  have hcells : ∀ (j : Nat) y, news[j]? = some y → w.cell? (ad.add j) = some y := by
    intro j y hj
    rcases hc with h0 | ⟨b, off, e2, _, hcell⟩
    · omega
    · cases e2
      rw [add_off]
      exact hcell j y hj
  obtain ⟨v', w', hrun, h2, h3, _, h5⟩ := run_append_own_at (P := P) w base t o.type e i z size bytes ht hi hz hsize hby hzs hsz v n xs hown ad m cap news hl hcells h1 h63 hbytes hbase
  unfold Oper.wp execOp
  simp only [ho, resolve, invoke, builtin, Sem.run_bind, Sem.run_pure, Result.andThen_ok, List.map_toArray, List.map_cons, List.map_nil, hs, hx, hrun]
  exact h v' w' h2 h3 h5
theorem wp_appS {t e : TypeId} {i : TypeInfo} {z : Value} {size bytes : Nat} (ht : P.underlying t = some (.slice e)) (hi : P.info? e = some i) (hz : i.zero = some z) (hsize : i.size = size) (hby : i.bytes = bytes)
    (hzs : z.cells.size = size) (hsz : 0 < size) {ops : Array Oper} {rest : List Oper} {o : Oper} {a : Act} {Q : Exit → Act → World → Prop} {w : World} (hgd : o.guard = none) (s x : Operand)
    (ho : o.op = .call { callee := .builtin .append, args := #[s, x], argTypes := #[t, t] }) (base : Nat) (v : Value) (n : Nat) (xs : List Value) (hs : a.eval s = v) (hown : w.ownsRow base e size v n xs)
    (ad : Addr) (cap m : Nat) (news : List Value) (hx : a.eval x = .slice (some ad) m cap) (hr : SR w (.slice (some ad) m cap) size m news) (hm : 0 < m)
    (h1 : ∀ y ∈ news, y.oneCell' = true) (h63 : n + m ≤ maxLen) (hbytes : (n + m) * bytes ≤ 140737488355328) (hbase : base ≤ w.heap.size)
    (h : ∀ v' w', w'.ownsRow base e size v' (n + m) (xs ++ news) → w.grownBy w' v.ownBlock → (v'.ownBlock = v.ownBlock ∨ v'.ownBlock = some w.heap.size) → wpList P ops Q rest (a.put o.dst v') w') : wpList P ops Q (o :: rest) a w := by
  refine wpList_plain hgd fun K hK => ?_
  obtain ⟨a', cap', he, hmc, hcm, hl, hc⟩ := hr
  injection he with e1 _ e2
  subst e1 e2
  have hcells : ∀ (j : Nat) y, news[j]? = some y → w.cell? (ad.add j) = some y := by
    intro j y hj
    rcases hc with h0 | ⟨b, off, e2, _, hcell⟩
    · omega
    · cases e2
      rw [add_off]
      exact hcell j y hj
  obtain ⟨v', w', hrun, h2, h3, _, h5⟩ := run_append_own_at (P := P) w base t o.type e i z size bytes ht hi hz hsize hby hzs hsz v n xs hown ad m cap news hl hcells h1 h63 hbytes hbase
  unfold Oper.wp execOp
  simp only [ho, resolve, invoke, builtin, Sem.run_bind, Sem.run_pure, Result.andThen_ok, List.map_toArray, List.map_cons, List.map_nil, hs, hx, hrun]
  exact hK _ _ (h v' w' h2 h3 h5)
theorem step_app0S {t e : TypeId} {i : TypeInfo} {z : Value} {size bytes : Nat} (ht : P.underlying t = some (.slice e)) (hi : P.info? e = some i) (hz : i.zero = some z) (hsize : i.size = size) (hby : i.bytes = bytes)
    (hzs : z.cells.size = size) (hsz : 0 < size) {ops : Array Oper} {o : Oper} {a : Act} {K : Act → World → Prop} {Q : Exit → Act → World → Prop} {E : Prop} {w : World} (hgd : o.guard = none) (s x : Operand)
    (ho : o.op = .call { callee := .builtin .append, args := #[s, x], argTypes := #[t, t] }) (base : Nat) (v : Value) (n : Nat) (xs : List Value) (hs : a.eval s = v) (hown : w.ownsRow base e size v n xs)
    (u : Value) (m : Nat) (news : List Value) (hx : a.eval x = u) (hr : SR w u size m news)
    (h1 : ∀ y ∈ news, y.oneCell' = true) (h63 : n + m ≤ maxLen) (hbytes : (n + m) * bytes ≤ 140737488355328) (hbase : base ≤ w.heap.size)
    (h : ∀ v' w', w'.ownsRow base e size v' (n + m) (xs ++ news) → w.grownBy w' v.ownBlock → K (a.put o.dst v') w') :
    if Region.wanted o (yielded ops a.tmps) = true then Oper.wp P o a w K Q else E := by
  rw [if_pos (by simp [Region.wanted, hgd])]
  obtain ⟨v', w', hrun, h2, h3⟩ := run_app (P := P) (ty := o.type) ht hi hz hsize hby hzs hsz w base v n xs hown u m news hr h1 h63 hbytes hbase
  unfold Oper.wp execOp
  simp only [ho, resolve, invoke, builtin, Sem.run_bind, Sem.run_pure, Result.andThen_ok, List.map_toArray, List.map_cons, List.map_nil, hs, hx, hrun]
  exact h v' w' h2 h3
end
def evCS (l : List Ev) : List Value := l.flatMap Ev.c
theorem evC_appS (a b : List Ev) : evCS (a ++ b) = evCS a ++ evCS b := by simp [evCS]
theorem evC_oneS (l : List Ev) : ∀ y ∈ evCS l, y.oneCell' = true := by
  intro y hy
  simp only [evCS, List.mem_flatMap] at hy
  obtain ⟨u, hu, hy⟩ := hy
  simp only [Ev.c, List.mem_cons, List.not_mem_nil, or_false] at hy
  rcases hy with rfl | rfl | rfl | rfl | rfl | rfl | rfl | rfl | rfl | rfl <;> rfl
theorem evC_lenS : ∀ l : List Ev, (evCS l).length = l.length * 10
  | [] => rfl
  | x :: l => by
    show (Ev.c x ++ evCS l).length = _
    rw [List.length_append, evC_lenS l, List.length_cons, Nat.succ_mul]
    show 10 + l.length * 10 = _
    omega
theorem einfoS : (Try.prog.info? 36).map (fun i => (i.zero, i.size, i.bytes)) = some (some (.agg #[.bool false, .int .i64 0, .int .i64 0, .int .i64 0, .int .i64 0, .int .i64 0, .string ⟨#[]⟩, .bool false, .int .i64 0, .string ⟨#[]⟩]), 10, 96) := by kernel_rfl
theorem sinfoS : (Try.prog.info? 9).map (fun i => (i.zero, i.size, i.bytes)) = some (some (.string ⟨#[]⟩), 1, 16) := by kernel_rfl
def sCS (l : List ByteArray) : List Value := l.map Value.string
theorem sC_appS (a b : List ByteArray) : sCS (a ++ b) = sCS a ++ sCS b := by simp [sCS]
theorem sC_oneS (l : List ByteArray) : ∀ y ∈ sCS l, y.oneCell' = true := by
  intro y hy
  obtain ⟨s, -, rfl⟩ := List.mem_map.1 hy
  rfl
/-- a row of events -/
def RowE (N : Nat) (w : World) (v : Value) (E : List Ev) : Prop := w.ownsRow N 36 10 v E.length (evCS E)
theorem RowE.below {N : Nat} {w w' : World} {v : Value} {E : List Ev} (h : RowE N w v E) (hb : Below w.heap.size w w') : RowE N w' v E := owns_below h hb
theorem own_movS {w w' : World} {base : Nat} {e : TypeId} {size n : Nat} {v : Value} {xs : List Value} (h : w.ownsRow base e size v n xs) (hk : ∀ g, v.ownBlock = some g → w'.heap[g]? = w.heap[g]?) : w'.ownsRow base e size v n xs := by
  refine ⟨h.1, ?_⟩
  rcases h.2 with hn | ⟨g, cap, cur, rfl, hb, hg, rest⟩
  · exact .inl hn
  · exact .inr ⟨g, cap, cur, rfl, hb, (hk g rfl).trans hg, rest⟩
theorem own_ltS {w : World} {base : Nat} {e : TypeId} {size n : Nat} {v : Value} {xs : List Value} (h : w.ownsRow base e size v n xs) {g : Nat} (hg : v.ownBlock = some g) : base ≤ g ∧ g < w.heap.size := by
  rcases h.2 with ⟨rfl, -⟩ | ⟨b, cap, cur, rfl, hb, hh, -⟩
  · cases hg
  · cases hg
    exact ⟨hb, lt_heap hh⟩
theorem own_grownS {w w' : World} {base : Nat} {e : TypeId} {size n : Nat} {v : Value} {xs : List Value} {r : Option Nat} (h : w.ownsRow base e size v n xs) (hg : w.grownBy w' r) (hne : ∀ g, v.ownBlock = some g → r ≠ some g) : w'.ownsRow base e size v n xs :=
  own_movS h fun g e => hg.block g (own_ltS h e).2 (fun q => hne g e q.symm)
theorem RowE.grown {N : Nat} {w w' : World} {v : Value} {E : List Ev} {r : Option Nat} (h : RowE N w v E) (hg : w.grownBy w' r) (hne : ∀ g, v.ownBlock = some g → r ≠ some g) : RowE N w' v E := own_grownS h hg hne
theorem RowE.elts {N : Nat} {w : World} {v : Value} {E : List Ev} (h : RowE N w v E) : Elts w Ev.c 10 v E := elts_sr (c := Ev.c) (sz := 10) (fun x => rfl) (SR.owns h)
theorem RowE.mono {N M : Nat} {w : World} {v : Value} {E : List Ev} (h : RowE M w v E) (hNM : N ≤ M) : RowE N w v E := ⟨h.1, h.2.imp id fun ⟨g, cap, cur, a, b, c⟩ => ⟨g, cap, cur, a, Nat.le_trans hNM b, c⟩⟩
theorem rowE_of {N n : Nat} {w : World} {v : Value} {xs : List Value} {E : List Ev} (h : w.ownsRow N 36 10 v n xs) (hn : n = E.length) (hx : xs = evCS E) : RowE N w v E := by
  subst hn hx
  exact h
/-- the row without its first d -/
theorem sr_dropS {w : World} {b off n cap d : Nat} {es : List Ev} (h : SR w (.slice (some ⟨b, off, none⟩) n cap) 10 n (evCS es)) (hn : es.length = n) (hd : d ≤ n) : SR w (.slice (some ⟨b, off + d * 10, none⟩) (n - d) (cap - d)) 10 (n - d) (evCS (es.drop d)) := by
  obtain ⟨a, c, e, h1, h2, h3, h4⟩ := h
  injection e with e1 e2 e3
  subst e1 e3
  refine ⟨_, _, rfl, by omega, by omega, by rw [evC_lenS, List.length_drop, hn], ?_⟩
  rcases h4 with h4 | ⟨b', off', e, hb, hc⟩
  · left; omega
  · cases e
    refine .inr ⟨_, _, rfl, hb, fun j u hj => ?_⟩
    have hsp : evCS es = evCS (es.take d) ++ evCS (es.drop d) := by rw [← evC_appS, List.take_append_drop]
    have hl : (evCS (es.take d)).length = d * 10 := by rw [evC_lenS, List.length_take, hn, Nat.min_eq_left hd]
    have := hc (d * 10 + j) u (by rw [hsp, List.getElem?_append_right (by omega), hl, Nat.add_sub_cancel_left]; exact hj)
    rw [← Nat.add_assoc] at this
    exact this
theorem sr_nilS {w : World} {a : Option Addr} {cap : Nat} (hc : cap ≤ maxLen) : SR w (.slice a 0 cap) 10 0 (evCS []) := ⟨a, cap, rfl, Nat.zero_le _, hc, rfl, .inl rfl⟩
theorem sr_takeS {w : World} {a : Option Addr} {n cap : Nat} {es : List Ev} (h : SR w (.slice a n cap) 10 n (evCS es)) (hn : es.length = n) (k : Nat) (hk : k ≤ n) : SR w (.slice a k cap) 10 k (evCS (es.take k)) := by
  have h2 := h.front k hk
  have e : (evCS es).take (k * 10) = evCS (es.take k) := by
    have hsp : evCS es = evCS (es.take k) ++ evCS (es.drop k) := by rw [← evC_appS, List.take_append_drop]
    have hl : (evCS (es.take k)).length = k * 10 := by rw [evC_lenS, List.length_take, hn, Nat.min_eq_left hk]
    rw [hsp, List.take_append_of_le_length (by omega), List.take_of_length_le (by omega)]
  rw [e] at h2
  exact h2
theorem sr_grownS {w w' : World} {v : Value} {size n : Nat} {xs : List Value} {r : Option Nat} (h : SR w v size n xs) (hg : w.grownBy w' r) (hne : ∀ g, v.ownBlock = some g → r ≠ some g) : SR w' v size n xs := by
  obtain ⟨a, cap, rfl, h1, h2, h3, h4⟩ := h
  refine ⟨a, cap, rfl, h1, h2, h3, h4.imp id ?_⟩
  rintro ⟨b, off, rfl, hb, hc⟩
  refine ⟨b, off, rfl, Nat.lt_of_lt_of_le hb hg.size, fun j u hj => ?_⟩
  rw [World.cell?_of_block (a := ⟨b, off + j, none⟩) (hg.block b hb (fun e => hne b rfl e.symm))]
  exact hc j u hj
/-- what lies in memory -/
structure SM (N : Nat) (w0 : World) (n : Nat) (E O : List Ev) (VS : List ByteArray) (ov pv vv : Value) (w : World) : Prop where
  out : RowE N w ov E
  opn : RowE N w pv O
  vals : w.ownsRow N 9 1 vv VS.length (sCS VS)
  ap : ∀ g, ov.ownBlock = some g → pv.ownBlock ≠ some g
  low : Below N w0 w
  big : N ≤ w.heap.size
  j : EvJ E n
  sub : ∀ o ∈ O, o ∈ E ∧ o.ans = false
  vok : ∀ s ∈ VS, s.size ≤ maxLen
  vpos : 1 ≤ VS.length
theorem SM.below {N n : Nat} {w0 w w' : World} {E O : List Ev} {VS : List ByteArray} {ov pv vv : Value} (h : SM N w0 n E O VS ov pv vv w) (hb : Below w.heap.size w w') : SM N w0 n E O VS ov pv vv w' :=
  ⟨h.out.below hb, h.opn.below hb, owns_below h.vals hb, h.ap, h.low.trans (hb.mono h.big), Nat.le_trans h.big hb.size, h.j, h.sub, h.vok, h.vpos⟩
theorem own_typesS {w : World} {N M : Nat} {t t' : TypeId} {s s' n n' : Nat} {v v' : Value} {xs xs' : List Value} (h : w.ownsRow N t s v n xs) (h' : w.ownsRow M t' s' v' n' xs') (ht : t ≠ t') : ∀ g, v.ownBlock = some g → v'.ownBlock ≠ some g := fun g e e' => by
  obtain ⟨c, hc⟩ := own_typeP h e
  obtain ⟨c', hc'⟩ := own_typeP h' e'
  rw [hc] at hc'
  injection hc' with hc'
  injection hc' with _ hc'
  exact ht hc'
/-- something is told: the events grow -/
theorem SM.tell {N n : Nat} {w0 w w' : World} {E O : List Ev} {VS : List ByteArray} {ov pv vv ov' : Value} {x o : Ev} (h : SM N w0 n E O VS ov pv vv w) (hown : w'.ownsRow N 36 10 ov' (E.length + 1) (evCS E ++ evCS [x])) (hg : w.grownBy w' ov.ownBlock) (hb : ov'.ownBlock = ov.ownBlock ∨ ov'.ownBlock = some w.heap.size)
    (ho : o ∈ O) (ha : x.ans = true) (hid : x.id = o.id) (he0 : x.err = 0) (hok : EvOk x) : SM N w0 n (E ++ [x]) O VS ov' pv vv w' := by
  refine ⟨rowE_of hown (by simp) (evC_appS _ _).symm, h.opn.grown hg (fun g e e2 => h.ap g e2 e), own_grownS h.vals hg (fun g e e2 => own_typesS h.out h.vals (by decide) g e2 e), fun g e e2 => ?_, below_app h.low hg h.out (Nat.le_refl _) h.big, Nat.le_trans h.big hg.size, h.j.tells (h.sub o ho).1 (h.sub o ho).2 ha hid he0 hok, fun y hy => ⟨List.mem_append_left _ (h.sub y hy).1, (h.sub y hy).2⟩, h.vok, h.vpos⟩
  have h2 := (own_ltS h.opn e2).2
  rcases hb with q | q
  · exact h.ap g (q.symm.trans e) e2
  · rw [q] at e
    cases e
    omega
/-- what is open turns into a new row -/
theorem SM.open_ {N n : Nat} {w0 w w' : World} {E O O' : List Ev} {VS : List ByteArray} {ov pv vv pv' : Value} (h : SM N w0 n E O VS ov pv vv w) (hb : Below w.heap.size w w') (hr : RowE w.heap.size w' pv' O') (hO : ∀ o ∈ O', o ∈ O) : SM N w0 n E O' VS ov pv' vv w' := by
  refine ⟨h.out.below hb, hr.mono h.big, owns_below h.vals hb, fun g e e2 => ?_, h.low.trans (hb.mono h.big), Nat.le_trans h.big hb.size, h.j, fun o ho => h.sub o (hO o ho), h.vok, h.vpos⟩
  have h1 := (own_ltS h.out e).2
  have h2 := (own_ltS hr e2).1
  omega
/-- a value more is written -/
theorem SM.value {N n : Nat} {w0 w w' : World} {E O : List Ev} {VS : List ByteArray} {ov pv vv vv' : Value} {s : ByteArray} (h : SM N w0 n E O VS ov pv vv w) (hown : w'.ownsRow N 9 1 vv' (VS.length + 1) (sCS VS ++ sCS [s])) (hg : w.grownBy w' vv.ownBlock) (hs : s.size ≤ maxLen) : SM N w0 n E O (VS ++ [s]) ov pv vv' w' := by
  have hv : w'.ownsRow N 9 1 vv' (VS ++ [s]).length (sCS (VS ++ [s])) := by
    rw [sC_appS, List.length_append]
    exact hown
  refine ⟨h.out.grown hg (fun g e e2 => own_typesS h.out h.vals (by decide) g e e2), h.opn.grown hg (fun g e e2 => own_typesS h.opn h.vals (by decide) g e e2), hv, h.ap, below_app h.low hg h.vals (Nat.le_refl _) h.big, Nat.le_trans h.big hg.size, h.j, h.sub, fun y hy => ?_, by simp⟩
  rcases List.mem_append.1 hy with q | q
  · exact h.vok y q
  · rw [List.mem_singleton.1 q]; exact hs
/-- something is asked for: both rows have grown, one behind the other -/
theorem SM.asked {N n : Nat} {w0 wr wa wA wb wB : World} {E O : List Ev} {VS : List ByteArray} {ov pv vv ov' pv' : Value} {x : Ev} (h : SM N w0 n E O VS ov pv vv wr) (b0 : Below wr.heap.size wr wa) (hA : wA.ownsRow N 36 10 ov' (E.length + 1) (evCS E ++ evCS [x])) (gA : wa.grownBy wA ov.ownBlock) (bA : ov'.ownBlock = ov.ownBlock ∨ ov'.ownBlock = some wa.heap.size)
    (b1 : Below wA.heap.size wA wb) (hB : wB.ownsRow N 36 10 pv' (O.length + 1) (evCS O ++ evCS [x])) (gB : wb.grownBy wB pv.ownBlock) (bB : pv'.ownBlock = pv.ownBlock ∨ pv'.ownBlock = some wb.heap.size) (ha : x.ans = false) (hid : x.id = (n : Int) + 1) (hw : x.what ≠ 2) (hm : x.what = 1 → ∃ m, MarkB x.id x.data m) (ho : EvOk x) : SM N w0 (n + 1) (E ++ [x]) (O ++ [x]) VS ov' pv' vv wB := by
  have ha0 := h.below b0
  have hov : ∀ g, ov'.ownBlock = some g → pv.ownBlock ≠ some g := fun g e e2 => by
    have h2 := (own_ltS ha0.opn e2).2
    rcases bA with q | q
    · exact h.ap g (q.symm.trans e) e2
    · rw [q] at e
      cases e
      omega
  have hoA : RowE N wA ov' (E ++ [x]) := rowE_of hA (by simp) (evC_appS _ _).symm
  have hpA : RowE N wA pv O := ha0.opn.grown gA (fun g e e2 => h.ap g e2 e)
  have hvA : wA.ownsRow N 9 1 vv VS.length (sCS VS) := own_grownS ha0.vals gA (fun g e e2 => own_typesS ha0.out ha0.vals (by decide) g e2 e)
  have hpb := hpA.below b1
  have hvb := owns_below hvA b1
  have lA : Below N w0 wA := below_app ha0.low gA ha0.out (Nat.le_refl _) ha0.big
  have zA : N ≤ wA.heap.size := Nat.le_trans ha0.big gA.size
  have lb := lA.trans (b1.mono zA)
  have zb := Nat.le_trans zA b1.size
  refine ⟨(hoA.below b1).grown gB (fun g e e2 => hov g e e2), rowE_of hB (by simp) (evC_appS _ _).symm, own_grownS hvb gB (fun g e e2 => own_typesS hpb hvb (by decide) g e2 e), fun g e e2 => ?_, below_app lb gB hpb (Nat.le_refl _) zb, Nat.le_trans zb gB.size, h.j.asks ha hid hw hm ho, fun y hy => ?_, h.vok, h.vpos⟩
  · rcases bB with q | q
    · exact hov g e (q.symm.trans e2)
    · rw [q] at e2
      cases e2
      have := (own_ltS hoA e).2
      have := b1.size
      omega
  · rcases List.mem_append.1 hy with q | q
    · exact ⟨List.mem_append_left _ (h.sub y q).1, (h.sub y q).2⟩
    · rw [List.mem_singleton.1 q]
      exact ⟨by simp, ha⟩
/-- the same, the open ones first -/
theorem SM.asked2 {N n : Nat} {w0 wr wa wA wb wB : World} {E O : List Ev} {VS : List ByteArray} {ov pv vv ov' pv' : Value} {x : Ev} (h : SM N w0 n E O VS ov pv vv wr) (b0 : Below wr.heap.size wr wa) (hB : wA.ownsRow N 36 10 pv' (O.length + 1) (evCS O ++ evCS [x])) (gB : wa.grownBy wA pv.ownBlock) (bB : pv'.ownBlock = pv.ownBlock ∨ pv'.ownBlock = some wa.heap.size)
    (b1 : Below wA.heap.size wA wb) (hA : wB.ownsRow N 36 10 ov' (E.length + 1) (evCS E ++ evCS [x])) (gA : wb.grownBy wB ov.ownBlock) (bA : ov'.ownBlock = ov.ownBlock ∨ ov'.ownBlock = some wb.heap.size) (ha : x.ans = false) (hid : x.id = (n : Int) + 1) (hw : x.what ≠ 2) (hm : x.what = 1 → ∃ m, MarkB x.id x.data m) (ho : EvOk x) : SM N w0 (n + 1) (E ++ [x]) (O ++ [x]) VS ov' pv' vv wB := by
  have ha0 := h.below b0
  have hov : ∀ g, pv'.ownBlock = some g → ov.ownBlock ≠ some g := fun g e e2 => by
    have h2 := (own_ltS ha0.out e2).2
    rcases bB with q | q
    · exact h.ap g e2 (q.symm.trans e)
    · rw [q] at e
      cases e
      omega
  have hoA : RowE N wA pv' (O ++ [x]) := rowE_of hB (by simp) (evC_appS _ _).symm
  have hpA : RowE N wA ov E := ha0.out.grown gB (fun g e e2 => h.ap g e e2)
  have hvA : wA.ownsRow N 9 1 vv VS.length (sCS VS) := own_grownS ha0.vals gB (fun g e e2 => own_typesS ha0.opn ha0.vals (by decide) g e2 e)
  have hpb := hpA.below b1
  have hvb := owns_below hvA b1
  have lA : Below N w0 wA := below_app ha0.low gB ha0.opn (Nat.le_refl _) ha0.big
  have zA : N ≤ wA.heap.size := Nat.le_trans ha0.big gB.size
  have lb := lA.trans (b1.mono zA)
  have zb := Nat.le_trans zA b1.size
  refine ⟨rowE_of hA (by simp) (evC_appS _ _).symm, (hoA.below b1).grown gA (fun g e e2 => hov g e e2), own_grownS hvb gA (fun g e e2 => own_typesS hpb hvb (by decide) g e2 e), fun g e e2 => ?_, below_app lb gA hpb (Nat.le_refl _) zb, Nat.le_trans zb gA.size, h.j.asks ha hid hw hm ho, fun y hy => ?_, h.vok, h.vpos⟩
  · rcases bA with q | q
    · exact hov g e2 (q.symm.trans e)
    · rw [q] at e
      cases e
      have := (own_ltS hoA e2).2
      have := b1.size
      omega
  · rcases List.mem_append.1 hy with q | q
    · exact ⟨List.mem_append_left _ (h.sub y q).1, (h.sub y q).2⟩
    · rw [List.mem_singleton.1 q]
      exact ⟨by simp, ha⟩
theorem baseS {N M : Nat} {w : World} {X : Prop} (h : M ≤ w.heap.size ∧ X) (hN : N ≤ M) : N ≤ w.heap.size := Nat.le_trans hN h.1
theorem ys_start {M Y : Nat} {w : World} (h : w.heap.size = M) : M ≤ w.drew.heap.size ∧ ∀ o, w.drew.cell? ⟨Y, o, none⟩ = w.cell? ⟨Y, o, none⟩ := ⟨Nat.le_of_eq h.symm, fun _ => rfl⟩
theorem ys_alloc {M Y : Nat} {w w' : World} {c : Obj} (h : M ≤ w'.heap.size ∧ ∀ o, w'.cell? ⟨Y, o, none⟩ = w.cell? ⟨Y, o, none⟩) (hY : Y < M) : M ≤ (w'.alloc c).heap.size ∧ ∀ o, (w'.alloc c).cell? ⟨Y, o, none⟩ = w.cell? ⟨Y, o, none⟩ :=
  ⟨by simp; exact Nat.le_succ_of_le h.1, fun o => (World.cell?_alloc_lt w' c ⟨Y, o, none⟩ (Nat.lt_of_lt_of_le hY h.1)).trans (h.2 o)⟩
theorem ys_app {M Y : Nat} {w w' w'' : World} {r : Option Nat} (h : M ≤ w'.heap.size ∧ ∀ o, w'.cell? ⟨Y, o, none⟩ = w.cell? ⟨Y, o, none⟩) (hg : w'.grownBy w'' r) (hY : Y < M) (hr : r ≠ some Y) : M ≤ w''.heap.size ∧ ∀ o, w''.cell? ⟨Y, o, none⟩ = w.cell? ⟨Y, o, none⟩ :=
  ⟨Nat.le_trans h.1 hg.size, fun o => (World.cell?_of_block (a := ⟨Y, o, none⟩) (hg.block Y (Nat.lt_of_lt_of_le hY h.1) (fun e => hr e.symm))).trans (h.2 o)⟩
theorem five_setS {w : World} {X : Nat} {t : TypeId} {a b c d e a' b' c' d' e' : Value} (h : w.heap[X]? = some (.cells #[a, b, c, d, e] t)) :
    (((((w.setCell ⟨X, 0, none⟩ a').setCell ⟨X, 1, none⟩ b').setCell ⟨X, 2, none⟩ c').setCell ⟨X, 3, none⟩ d').setCell ⟨X, 4, none⟩ e').heap[X]? = some (.cells #[a', b', c', d', e'] t) ∧ Below X w (((((w.setCell ⟨X, 0, none⟩ a').setCell ⟨X, 1, none⟩ b').setCell ⟨X, 2, none⟩ c').setCell ⟨X, 3, none⟩ d').setCell ⟨X, 4, none⟩ e') := by
  have h1 : (w.setCell ⟨X, 0, none⟩ a').heap[X]? = some (.cells #[a', b, c, d, e] t) := heap_set_self h 0 _
  have h2 : ((w.setCell ⟨X, 0, none⟩ a').setCell ⟨X, 1, none⟩ b').heap[X]? = some (.cells #[a', b', c, d, e] t) := heap_set_self h1 1 _
  have h3 : (((w.setCell ⟨X, 0, none⟩ a').setCell ⟨X, 1, none⟩ b').setCell ⟨X, 2, none⟩ c').heap[X]? = some (.cells #[a', b', c', d, e] t) := heap_set_self h2 2 _
  have h4 : ((((w.setCell ⟨X, 0, none⟩ a').setCell ⟨X, 1, none⟩ b').setCell ⟨X, 2, none⟩ c').setCell ⟨X, 3, none⟩ d').heap[X]? = some (.cells #[a', b', c', d', e] t) := heap_set_self h3 3 _
  exact ⟨heap_set_self h4 4 _, (((((Below.refl X w).setCell (p := ⟨X, 0, none⟩) (Nat.le_refl _) _).setCell (p := ⟨X, 1, none⟩) (Nat.le_refl _) _).setCell (p := ⟨X, 2, none⟩) (Nat.le_refl _) _).setCell (p := ⟨X, 3, none⟩) (Nat.le_refl _) _).setCell (p := ⟨X, 4, none⟩) (Nat.le_refl _) _⟩
end Go.Proofs.Ytodjlaapmbnahaa
