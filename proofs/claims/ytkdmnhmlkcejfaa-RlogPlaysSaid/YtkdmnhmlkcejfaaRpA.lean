/-
  The law of logs: what is known of a log and its model, and how it is carried on.
-/
import Derived.Test.YtkdmnhmlkcejfaaRgM
import Derived.Test.YtkdmnhmlkcejfaaRgE
import Derived.Test.YtkdmnhmlkcejfaaRgG
import Derived.Test.YtkdmnhmlkcejfaaEemR
namespace Go.Proofs.Ytkdmnhmlkcejfaa
open Go.RowKit
set_option linter.unusedVariables false
set_option linter.unusedSimpArgs false

theorem keepsP {A B C : Prop} (h : A ∧ B ∧ C) : A ∧ B := ⟨h.1, h.2.1⟩
/-- a block is none of the log's or the model's own -/
def farB (g X : Nat) (v : Value) (b : Nat) : Prop := b ≠ g ∧ b ≠ X ∧ v.ownBlock ≠ some b
theorem elts_move {w w' : World} {v : Value} {es : List EN} (h : Elts w EN.cells 7 v es) (hs : w.heap.size ≤ w'.heap.size) (hb : es.length ≠ 0 → ∀ b, v.ownBlock = some b → b < w.heap.size → w'.heap[b]? = w.heap[b]?) : Elts w' EN.cells 7 v es := by
  obtain ⟨a, c, rfl, h1, h2, h3⟩ := h
  refine ⟨a, c, rfl, h1, h2, ?_⟩
  rcases Nat.eq_zero_or_pos es.length with hz | hz
  · exact .inl hz
  · refine h3.imp id ?_
    rintro ⟨b, off, rfl, hlt, hc⟩
    exact ⟨b, off, rfl, Nat.lt_of_lt_of_le hlt hs, fun j x hx k u hu => (World.cell?_of_block (a := ⟨b, off + j * 7 + k, none⟩) (hb (Nat.ne_of_gt hz) b rfl hlt)).trans (hc j x hx k u hu)⟩
/-- the law's log and its model -/
structure RI (g X : Nat) (w0 : World) (B T : Int) (v : Value) (ts : List EN) (mv : Value) (ms : List EN) (wr : World) : Prop where
  log : LogG B T wr g g v ts
  obj : wr.heap[X]? = some (.cells #[.int .i64 B, .int .i64 T, mv] 27)
  el : Elts wr EN.cells 7 mv ms
  key : ts.map EN.k = ms.map EN.k
  may : ∀ e ∈ ms, mayE e.t e.x e.c = true ∧ e.lr (farB g X v) wr
  mrow : ms.length ≠ 0 → ∀ b, mv.ownBlock = some b → farB g X v b
  low : Below w0.heap.size w0 wr
  gl : w0.heap.size ≤ g
  gX : g < X
theorem RI.below {g X : Nat} {w0 : World} {B T : Int} {v : Value} {ts : List EN} {mv : Value} {ms : List EN} {wr w' : World} (h : RI g X w0 B T v ts mv ms wr) (hb : Below wr.heap.size wr w') : RI g X w0 B T v ts mv ms w' :=
  ⟨h.log.below hb, below_at hb (lt_heap h.obj) h.obj, h.el.below hb, h.key, fun e he => ⟨(h.may e he).1, (h.may e he).2.move hb.size fun b hl hp => ⟨hb.block b hl, hp⟩⟩, h.mrow, h.low.trans (hb.mono h.low.size), h.gl, h.gX⟩
theorem RI.len {g X : Nat} {w0 : World} {B T : Int} {v : Value} {ts : List EN} {mv : Value} {ms : List EN} {wr : World} (h : RI g X w0 B T v ts mv ms wr) : ms.length = ts.length := by
  have := congrArg List.length h.key
  rw [List.length_map, List.length_map] at this
  exact this.symm
theorem RI.shorts {g X : Nat} {w0 : World} {B T : Int} {v : Value} {ts : List EN} {mv : Value} {ms : List EN} {wr : World} (h : RI g X w0 B T v ts mv ms wr) : ∀ e ∈ ts, short e.c := by
  intro e he
  have h1 : e.k ∈ ms.map EN.k := by rw [← h.key]; exact List.mem_map_of_mem he
  obtain ⟨f, hf, e1⟩ := List.mem_map.1 h1
  have h2 := may_short (h.may f hf).1
  have e2 : f.c = e.c := congrArg (fun k => k.2.2) e1
  rw [← e2]; exact h2
theorem term_key {B T : Int} {ts ms : List EN} (h : ts.map EN.k = ms.map EN.k) (x : Int) : termG B T ms x = termG B T ts x := by
  unfold termG
  rw [map_t ms, ← h, ← map_t ts]
theorem ok_key {B T : Int} {ts ms : List EN} (h : ts.map EN.k = ms.map EN.k) (x t : Int) : okG B T ms x t = okG B T ts x t := by
  have hl := congrArg List.length h
  rw [List.length_map, List.length_map] at hl
  unfold okG
  rw [term_key h, hl]
/-- a block of the model's type is none of the log's -/
theorem LogG.onlyX {B T : Int} {w w' : World} {N g X : Nat} {v : Value} {ts : List EN} {c : Array Value} (h : LogG B T w N g v ts) (hx : w.heap[X]? = some (.cells c 27)) (ho : Only X w w') : LogG B T w' N g v ts := by
  have hne : ∀ (b : Nat) (c' : Array Value) (t : TypeId), t ≠ 27 → w.heap[b]? = some (.cells c' t) → w'.heap[b]? = w.heap[b]? := by
    intro b c' t ht hb
    refine ho.block b (lt_heap hb) ?_
    rintro rfl
    rw [hx] at hb
    injection hb with hb
    injection hb with _ h2
    exact ht h2.symm
  refine ⟨h.low, (hne _ _ _ (by decide) h.obj).trans h.obj, own_moveN h.row fun b q => ?_, fun e he => EN.own.move (h.lists e he) fun b c hb => hne _ _ _ (by decide) hb, h.bd⟩
  obtain ⟨c2, hc2⟩ := own_typeN h.row q
  exact hne _ _ _ (by decide) hc2
/-- what a step of both leaves -/
theorem RI.step {g X : Nat} {w0 : World} {B T B' T' : Int} {v v' : Value} {ts ts' : List EN} {mv mv' : Value} {ms ms' : List EN} {wr wz : World} (h : RI g X w0 B T v ts mv ms wr)
    (hL : LogG B' T' wz g g v' ts') (ho : wz.heap[X]? = some (.cells #[.int .i64 B', .int .i64 T', mv'] 27)) (hk : ts'.map EN.k = ms'.map EN.k) (hs : wr.heap.size ≤ wz.heap.size)
    (hfr : ∀ b, b < wr.heap.size → farB g X v b → wz.heap[b]? = wr.heap[b]?) (hlow : Below w0.heap.size w0 wz) (hnv : v'.ownBlock = v.ownBlock ∨ ∀ k, v'.ownBlock = some k → wr.heap.size ≤ k)
    (hel : Elts wz EN.cells 7 mv' ms') (hmr : (mv' = mv ∧ ms'.length = ms.length) ∨ (ms'.length ≠ 0 → ∀ b, mv'.ownBlock = some b → farB g X v' b)) (hms : ∀ e ∈ ms', e ∈ ms ∨ (mayE e.t e.x e.c = true ∧ e.lr (farB g X v) wr)) : RI g X w0 B' T' v' ts' mv' ms' wz := by
  have hfar : ∀ b, b < wr.heap.size → farB g X v b → farB g X v' b := by
    rintro b hb ⟨h1, h2, h3⟩
    refine ⟨h1, h2, fun e => ?_⟩
    rcases hnv with q | q
    · exact h3 (by rw [← q]; exact e)
    · have := q b e; omega
  refine ⟨hL, ho, hel, hk, fun e he => ?_, fun hz b hb => ?_, hlow, h.gl, h.gX⟩
  · rcases hms e he with q | q
    · exact ⟨(h.may e q).1, (h.may e q).2.move hs fun b hl hp => ⟨hfr b hl hp, hfar b hl hp⟩⟩
    · exact ⟨q.1, q.2.move hs fun b hl hp => ⟨hfr b hl hp, hfar b hl hp⟩⟩
  · rcases hmr with ⟨q, ql⟩ | q
    · rw [q] at hb
      have hz' : ms.length ≠ 0 := by rw [← ql]; exact hz
      obtain ⟨a, c, e, h1, h2, h3⟩ := h.el
      obtain ⟨b2, off, rfl, hlt, -⟩ := h3.resolve_left hz'
      rw [e] at hb
      have e3 := Option.some.inj hb
      simp only at e3
      subst e3
      exact hfar _ hlt (h.mrow hz' _ (by rw [e]; rfl))
    · exact q hz b hb
theorem RI.own_lt {g X : Nat} {w0 : World} {B T : Int} {v : Value} {ts : List EN} {mv : Value} {ms : List EN} {wr : World} (h : RI g X w0 B T v ts mv ms wr) {b : Nat} (e : v.ownBlock = some b) : b < wr.heap.size := by
  obtain ⟨c, hc⟩ := own_typeN h.log.row e
  exact lt_heap hc
theorem RI.new_far {g X : Nat} {w0 : World} {B T : Int} {v : Value} {ts : List EN} {mv : Value} {ms : List EN} {wr : World} (h : RI g X w0 B T v ts mv ms wr) {b : Nat} (hb : wr.heap.size ≤ b) : farB g X v b := by
  have h1 := lt_heap h.log.obj
  have h2 := lt_heap h.obj
  exact ⟨by omega, by omega, fun e => by have := h.own_lt e; omega⟩
/-- entries that were just made lie elsewhere -/
theorem gs_far {g X : Nat} {w0 : World} {B T : Int} {v : Value} {ts : List EN} {mv : Value} {ms : List EN} {w w1 : World} {u : Value} {es : List EN} (hG : GS w w1 u es) (h : RI g X w0 B T v ts mv ms w) : ∀ e ∈ es, mayE e.t e.x e.c = true ∧ e.lr (farB g X v) w1 :=
  fun e he => ⟨(hG.2.1 e he).1, (hG.2.1 e he).2.move (Nat.le_refl _) fun b hl hp => ⟨rfl, h.new_far hp.2⟩⟩
theorem far_of {g X : Nat} {v : Value} {e : EN} {w : World} (h : e.lr (farB g X v) w) : e.far g := by
  refine ⟨fun hz k hk => ?_, fun hz k hk => ?_⟩
  · obtain ⟨b, h1, h2, h3⟩ := h.1.2.resolve_left hz
    rw [h1] at hk
    cases hk
    exact h3.1
  · obtain ⟨b, h1, h2, h3⟩ := h.2.2.resolve_left hz
    rw [h1] at hk
    cases hk
    exact h3.1
/-- the model's block, stored to as a whole -/
theorem set3 {w : World} {X : Nat} {a b c a' b' c' : Value} {t : TypeId} (h : w.heap[X]? = some (.cells #[a, b, c] t)) :
    (((w.setCell ⟨X, 0, none⟩ a').setCell ⟨X, 1, none⟩ b').setCell ⟨X, 2, none⟩ c').heap[X]? = some (.cells #[a', b', c'] t) ∧ Only X w (((w.setCell ⟨X, 0, none⟩ a').setCell ⟨X, 1, none⟩ b').setCell ⟨X, 2, none⟩ c') :=
  ⟨heap_set_self (heap_set_self (heap_set_self h 0 _) 1 _) 2 _, (((Only.refl _ _).set 0 _).set 1 _).set 2 _⟩
/-- whatever turns the log's blocks, and then the model's -/
theorem RI.turn {g X : Nat} {w0 : World} {B T B' T' : Int} {v v' : Value} {ts ts' : List EN} {mv mv' : Value} {ms ms' : List EN} {wr w7 wz : World} (h : RI g X w0 B T v ts mv ms wr)
    (hL : LogG B' T' w7 g g v' ts') (hb7 : Below g wr w7) (hs : wr.heap.size ≤ w7.heap.size) (hfr : ∀ b, b < wr.heap.size → b ≠ g → v.ownBlock ≠ some b → w7.heap[b]? = wr.heap[b]?)
    (hnv : v'.ownBlock = v.ownBlock ∨ ∀ k, v'.ownBlock = some k → wr.heap.size ≤ k) (ho : Only X w7 wz) (hX : wz.heap[X]? = some (.cells #[.int .i64 B', .int .i64 T', mv'] 27))
    (hk : ts'.map EN.k = ms'.map EN.k) (hel : Elts w7 EN.cells 7 mv' ms') (hmr : (mv' = mv ∧ ms'.length = ms.length) ∨ (ms'.length ≠ 0 → ∀ b, mv'.ownBlock = some b → wr.heap.size ≤ b ∧ v'.ownBlock ≠ some b)) (hms : ∀ e ∈ ms', e ∈ ms ∨ (mayE e.t e.x e.c = true ∧ e.lr (farB g X v) wr)) : RI g X w0 B' T' v' ts' mv' ms' wz := by
  have hXl := lt_heap h.obj
  have hgl := lt_heap h.log.obj
  have hX7 : w7.heap[X]? = wr.heap[X]? := hfr X hXl (Nat.ne_of_gt h.gX) (row_otherE h.log.row h.obj (by decide))
  have hfr2 : ∀ b, b < wr.heap.size → farB g X v b → wz.heap[b]? = wr.heap[b]? := fun b hb hp => (ho.block b (by omega) hp.2.1).trans (hfr b hb hp.1 hp.2.2)
  have hmf : ms'.length ≠ 0 → ∀ b, mv'.ownBlock = some b → b ≠ X := by
    rintro hz b e rfl
    rcases hmr with ⟨q, ql⟩ | q
    · rw [q] at e
      exact (h.mrow (by rw [← ql]; exact hz) _ e).2.1 rfl
    · have := (q hz _ e).1; omega
  refine h.step (hL.onlyX (hX7.trans h.obj) ho) hX hk (Nat.le_trans hs ho.size) hfr2 ((h.low.trans (hb7.mono h.gl)).trans (ho.below (B := w0.heap.size) (by have := h.gX; have := h.gl; omega) (Nat.le_trans h.low.size hs))) hnv (elts_move hel ho.size fun hz b e hlt => ho.block b hlt (hmf hz b e)) (hmr.imp id fun q hz b e => ?_) hms
  obtain ⟨q1, q2⟩ := q hz b e
  exact ⟨by omega, by omega, q2⟩
theorem RI.app {g X : Nat} {w0 : World} {B T : Int} {v v3 : Value} {ts fs : List EN} {mv v2 : Value} {ms ms2 es : List EN} {w5 w6 w7 w8 wz : World} (h : RI g X w0 B T v ts mv ms w5) (hes : ∀ e ∈ es, mayE e.t e.x e.c = true ∧ e.lr (farB g X v) w5)
    (hb6 : Below w5.heap.size w5 w6) (hb67 : Below w6.heap.size w6 w7) (hel2 : Elts w6 EN.cells 7 v2 ms2) (hmem : ∀ e ∈ ms2, e ∈ ms ∨ e ∈ es) (hnew : v2 = mv ∨ ∀ b, v2.ownBlock = some b → w5.heap.size ≤ b) (hk : fs.map EN.k = ms2.map EN.k)
    (hL8 : LogG B T w8 g g v3 fs) (hO8 : Only g w7 w8) (hn8 : v3.ownBlock = v.ownBlock ∨ ∀ k, v3.ownBlock = some k → w7.heap.size ≤ k) (ho : Only X w8 wz) (hX : wz.heap[X]? = some (.cells #[.int .i64 B, .int .i64 T, v2] 27)) : RI g X w0 B T v3 fs v2 ms2 wz := by
  have hb57 : Below w5.heap.size w5 w7 := hb6.trans (hb67.mono hb6.size)
  have hgl := lt_heap h.log.obj
  have hln : v2 = mv → ms2.length = ms.length := fun e => by
    obtain ⟨a, c, e1, -⟩ := hel2
    obtain ⟨a', c', e2, -⟩ := h.el
    rw [e1, e2] at e
    injection e
  have hsz : w5.heap.size ≤ w8.heap.size := Nat.le_trans hb57.size hO8.size
  have hlt : ms2.length ≠ 0 → ∀ b, v2.ownBlock = some b → b < w6.heap.size := fun hz b e => by
    obtain ⟨a, c, e1, h1, h2, h3⟩ := hel2
    obtain ⟨b2, off, rfl, hlt, -⟩ := h3.resolve_left hz
    rw [e1] at e
    have e3 := Option.some.inj e
    simp only at e3
    omega
  refine h.turn hL8 ((hb57.mono (Nat.le_of_lt hgl)).trans (hO8.below (B := g) (Nat.le_refl _) (Nat.le_trans (Nat.le_of_lt hgl) hb57.size))) hsz (fun b hb hg hv => (hO8.block b (Nat.lt_of_lt_of_le hb hb57.size) hg).trans (hb57.block b hb)) (hn8.imp id fun q k e => Nat.le_trans hb57.size (q k e)) ho hX hk ?_ ?_ fun e he => (hmem e he).imp id (hes e)
  · refine elts_move (hel2.below hb67) hO8.size fun hz b e hb => hO8.block b hb ?_
    rcases hnew with q | q
    · exact (h.mrow (by rw [← hln q]; exact hz) b (by rw [← q]; exact e)).1
    · have := q b e; omega
  · rcases hnew with q | q
    · exact .inl ⟨q, hln q⟩
    · refine .inr fun hz b e => ⟨q b e, fun e2 => ?_⟩
      rcases hn8 with q2 | q2
      · have := h.own_lt (q2.symm.trans e2); have := q b e; omega
      · have := q2 b e2; have := hlt hz b e; have := hb67.size; omega
theorem app_len (B T P t : Int) (ms es : List EN) : (if okG B T ms P t = true then goK (ms.map EN.k) (startG B P es).1 ((startG B P es).2.map EN.k) else ms.map EN.k).length ≤ ms.length + es.length := by
  split
  · rename_i h
    have hP : P ≤ B + ms.length := by
      unfold okG at h
      simp only [Bool.and_eq_true, decide_eq_true_eq] at h
      exact h.2.1
    have h1 : (startG B P es).1 ≤ ms.length ∧ (startG B P es).2.length ≤ es.length := by
      unfold startG
      split
      · exact ⟨Nat.zero_le _, by rw [List.length_drop]; omega⟩
      · exact ⟨by show (P - B).toNat ≤ _; omega, Nat.le_refl _⟩
    have := (goK_len (ms.map EN.k) (startG B P es).1 ((startG B P es).2.map EN.k) (by rw [List.length_map]; exact h1.1)).2
    rw [List.length_map, List.length_map] at this
    omega
  · rw [List.length_map]; omega
/-- a row of entries like these -/
def RowX (w : World) (u : Value) (fs ms : List EN) : Prop := ∃ M, RowG w M u fs ∧ fs.map EN.k = ms.map EN.k
theorem from_all {B : Int} {ts : List EN} (hl : ts.length ≤ 300) : fromG B ts (B + 1) 300 = ts.map EN.k := by
  unfold fromG
  by_cases h : ts.length = 0
  · have e : ts = [] := List.eq_nil_of_length_eq_zero h
    subst e
    split <;> simp
  · rw [if_pos ⟨by omega, by omega⟩, show (B + 1 - B - 1).toNat = 0 by omega, List.drop_zero, show (300 : Int).toNat = 300 by rfl, List.take_of_length_le hl]
theorem from_cond {B P Q : Int} {n : Nat} {ts fs : List EN} (hn : ts.length = n) (hQ : 0 ≤ Q) (hk : fs.map EN.k = fromG B ts P Q) (i : Nat) (hi : i ≤ fs.length) : (P + (i : Int) ≤ B + n ∧ B < P + (i : Int) ∧ (i : Int) < Q) ↔ i < fs.length := by
  have hl := congrArg List.length hk
  unfold fromG at hl
  rw [List.length_map] at hl
  by_cases h : B < P ∧ P ≤ B + ts.length
  · rw [if_pos h, List.length_map, List.length_take, List.length_drop, hn] at hl
    rw [hn] at h
    omega
  · rw [if_neg h, List.length_nil] at hl
    rw [hn] at h
    omega
theorem from_get {B P Q : Int} {ts fs ms : List EN} (hk : fs.map EN.k = fromG B ts P Q) (hm : ts.map EN.k = ms.map EN.k) {i : Nat} {e : EN} (he : fs[i]? = some e) : ∃ (d : Nat) (f : EN), P + (i : Int) - B - 1 = d ∧ ms[d]? = some f ∧ e.k = f.k := by
  have hi := (List.getElem?_eq_some_iff.1 he).1
  have h1 : (fs.map EN.k)[i]? = some e.k := by rw [List.getElem?_map, he]; rfl
  rw [hk] at h1
  unfold fromG at h1
  split at h1
  · rename_i h
    rw [List.getElem?_map, List.getElem?_take] at h1
    split at h1
    · rw [List.getElem?_drop, ← List.getElem?_map, hm, List.getElem?_map] at h1
      obtain ⟨f, hf, e1⟩ := Option.map_eq_some_iff.1 h1
      exact ⟨_, f, by omega, hf, e1.symm⟩
    · cases h1
  · cases h1
theorem sameE_refl (t x : Int) (c : CF) : sameE t x c t x c = true := sameEN_self ⟨t, x, c, none, 0, none, 0⟩
theorem sameEN_key {a b : EN} (h : a.k = b.k) : sameEN a b = true := by
  have e1 : a.t = b.t := congrArg (fun k => k.1) h
  have e2 : a.x = b.x := congrArg (fun k => k.2.1) h
  have e3 : a.c = b.c := congrArg (fun k => k.2.2) h
  unfold sameEN
  rw [e1, e2, e3]
  exact sameE_refl _ _ _
theorem allE_keys : ∀ {fs ms : List EN}, fs.map EN.k = ms.map EN.k → allE fs ms = true
  | [], [], _ => rfl
  | [], _ :: _, h => by simp at h
  | _ :: _, [], h => by simp at h
  | a :: r, b :: s, h => by
    rw [List.map_cons, List.map_cons] at h
    injection h with h1 h2
    rw [allE, sameEN_key h1, allE_keys h2]
    rfl
theorem sr_elts {w : World} {v : Value} {es : List EN} (h : Elts w EN.cells 7 v es) : SR w v 7 es.length (enCells es) := by
  obtain ⟨a, c, rfl, h1, h2, h3⟩ := h
  refine ⟨a, c, rfl, h1, h2, enCells_len es, h3.imp id ?_⟩
  rintro ⟨b, off, rfl, hb, hc⟩
  refine ⟨b, off, rfl, hb, fun j u hj => ?_⟩
  have hjl := (List.getElem?_eq_some_iff.1 hj).1
  rw [enCells_len] at hjl
  obtain ⟨x, hx⟩ : ∃ x, es[j / 7]? = some x := ⟨_, List.getElem?_eq_getElem (by omega)⟩
  have hr : j % 7 < x.cells.length := by show j % 7 < 7; omega
  have h5 := enCells_get es (j / 7) x hx (j % 7) x.cells[j % 7] (List.getElem?_eq_getElem hr) (by omega)
  rw [show j / 7 * 7 + j % 7 = j by omega, hj] at h5
  have h6 := hc (j / 7) x hx (j % 7) x.cells[j % 7] (List.getElem?_eq_getElem hr)
  rw [show off + j / 7 * 7 + j % 7 = off + j by omega] at h6
  rw [h6]; exact h5.symm
/-- what a region reads of the model's block -/
def S32 (X : Nat) (a b c : Value) (w : World) : Prop := w.cell? ⟨X, 0, none⟩ = some a ∧ w.cell? ⟨X, 1, none⟩ = some b ∧ w.cell? ⟨X, 2, none⟩ = some c
theorem S32.below {X : Nat} {a b c : Value} {w w' : World} (h : S32 X a b c w) (hb : Below w.heap.size w w') : S32 X a b c w' := by
  have g : ∀ b o v, w.cell? ⟨b, o, none⟩ = some v → w'.cell? ⟨b, o, none⟩ = some v := fun b o v hv => (hb.cell (World.block_lt_of_cell? w _ hv)).trans hv
  exact ⟨g _ _ _ h.1, g _ _ _ h.2.1, g _ _ _ h.2.2⟩
/-- what a region reads of an act -/
def S9 (A : Nat) (a b : Value) (w : World) : Prop := w.cell? ⟨A, 2, none⟩ = some a ∧ w.cell? ⟨A, 3, none⟩ = some b
theorem S9.below {A : Nat} {a b : Value} {w w' : World} (h : S9 A a b w) (hb : Below w.heap.size w w') : S9 A a b w' := by
  have g : ∀ b o v, w.cell? ⟨b, o, none⟩ = some v → w'.cell? ⟨b, o, none⟩ = some v := fun b o v hv => (hb.cell (World.block_lt_of_cell? w _ hv)).trans hv
  exact ⟨g _ _ _ h.1, g _ _ _ h.2⟩
def RS (g X : Nat) (w0 : World) (n : Nat) (wx : World) : Prop := ∃ B T v ts mv ms, RI g X w0 B T v ts mv ms wx ∧ ts.length ≤ n
end Go.Proofs.Ytkdmnhmlkcejfaa
