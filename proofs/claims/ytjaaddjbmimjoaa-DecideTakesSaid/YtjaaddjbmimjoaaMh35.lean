/-
  Several texts, laid together.
-/
import Derived.Test.YtjaaddjbmimjoaaMh34
import Derived.Test.YtjaaddjbmimjoaaMh22
/-
  Commands one behind the other: decide.All; and tarnlaw12.awake.
-/


namespace Go.Proofs.Ytjaaddjbmimjoaa
open Go.RowKit
set_option linter.unusedVariables false
set_option linter.unusedSimpArgs false

/-- a command as it came in -/
structure RC where
  x : Int
  c : CF
  a5 : Option Addr
  q5 : Nat
  a6 : Option Addr
  q6 : Nat
def RC.cells (r : RC) : List Value := [.int .i64 r.x, .int .i64 r.c.e, .int .i64 r.c.b, .int .i64 r.c.k, .slice r.a5 r.c.M.length r.q5, .slice r.a6 r.c.C.length r.q6]
def RC.at_ (r : RC) (w : World) : Prop := CFat r.c w (.slice r.a5 r.c.M.length r.q5) (.slice r.a6 r.c.C.length r.q6)
def stOf (rs : List RC) (j : Nat) : DS := (rs.take j).foldl (fun s r => doS s r.x r.c) DS.z
theorem stOf_next {rs : List RC} {j : Nat} {r : RC} (h : rs[j]? = some r) : stOf rs (j + 1) = doS (stOf rs j) r.x r.c := by
  obtain ⟨hj, e⟩ := List.getElem?_eq_some_iff.1 h
  unfold stOf
  rw [List.take_succ_eq_append_getElem hj, e, List.foldl_append]
  rfl
/-- the lists are short, the newest epoch is the one made ready -/
def InvS (s : DS) : Prop := short s.a ∧ short s.n ∧ 0 ≤ s.ep ∧ s.n.e = s.ep
theorem inv_z : InvS DS.z := by simp [InvS, DS.z, CF.z, short]
theorem inv_do (s : DS) (x : Int) (c : CF) (h : InvS s) : InvS (doS s x c) := by
  obtain ⟨h1, h2, h3, h4⟩ := h
  unfold doS
  split
  · rename_i hm
    split
    · rename_i hx
      subst hx
      obtain ⟨hb, hs, -, -⟩ := may_wish hm
      unfold prepS
      split <;> split <;> first
        | exact ⟨h1, h2, h3, h4⟩
        | exact ⟨h1, hs, by show 0 ≤ s.ep + 1; omega, rfl⟩
    · split
      · split
        · exact ⟨h2, h2, h3, h4⟩
        · exact ⟨h1, h2, h3, h4⟩
      · exact ⟨h1, h2, h3, h4⟩
  · exact ⟨h1, h2, h3, h4⟩
theorem inv_of (rs : List RC) : ∀ j, InvS (stOf rs j)
  | 0 => inv_z
  | j + 1 => by
    rcases h : rs[j]? with _ | r
    · have e : stOf rs (j + 1) = stOf rs j := by
        have := List.getElem?_eq_none_iff.1 h
        unfold stOf
        rw [List.take_of_length_le (by omega), List.take_of_length_le this]
      rw [e]
      exact inv_of rs j
    · rw [stOf_next h]
      exact inv_do _ _ _ (inv_of rs j)
def AllRel (rs : List RC) (w : World) (j : Nat) (wr : World) : Prop :=
  ∃ b1 p1 b2 p2 b3 p3 b4 p4, wr.heap[w.heap.size]? = some (.cells #[.int .i64 (stOf rs j).ep, .int .i64 (stOf rs j).a.e, .int .i64 (stOf rs j).a.b, .int .i64 (stOf rs j).a.k, .slice b1 (stOf rs j).a.M.length p1, .slice b2 (stOf rs j).a.C.length p2, .int .i64 (stOf rs j).n.e, .int .i64 (stOf rs j).n.b, .int .i64 (stOf rs j).n.k, .slice b3 (stOf rs j).n.M.length p3, .slice b4 (stOf rs j).n.C.length p4, .int .i64 (stOf rs j).s0, .int .i64 (stOf rs j).s1] 42) ∧ wr.heap[w.heap.size + 1]? = some (.cells #[.int .i64 0, .int .i64 0, .int .i64 0, .int .i64 0, .slice none 0 0, .slice none 0 0, .int .i64 0, .int .i64 0, .int .i64 0, .slice none 0 0, .slice none 0 0, .int .i64 0, .int .i64 0] 42) ∧ CFO (stOf rs j).a (w.heap.size + 2) wr (.slice b1 (stOf rs j).a.M.length p1) (.slice b2 (stOf rs j).a.C.length p2) ∧ CFO (stOf rs j).n (w.heap.size + 2) wr (.slice b3 (stOf rs j).n.M.length p3) (.slice b4 (stOf rs j).n.C.length p4) ∧ short (stOf rs j).a ∧ short (stOf rs j).n ∧ 0 ≤ (stOf rs j).ep ∧ Below w.heap.size w wr ∧ w.heap.size + 2 ≤ wr.heap.size
theorem allrel_start (rs : List RC) (w w2 w3 : World) (b1 b2 b3 b4 : Option Addr) (p1 p2 p3 p4 : Nat)
    (h : w2.heap[w.heap.size + 1]? = some (.cells #[.int .i64 0, .int .i64 0, .int .i64 0, .int .i64 0, .slice none 0 0, .slice none 0 0, .int .i64 0, .int .i64 0, .int .i64 0, .slice none 0 0, .slice none 0 0, .int .i64 0, .int .i64 0] 42) ∧ Below w.heap.size w w2 ∧ w.heap.size + 2 ≤ w2.heap.size ∧ CFO DS.z.a (w.heap.size + 2) w2 (.slice b1 DS.z.a.M.length p1) (.slice b2 DS.z.a.C.length p2) ∧ CFO DS.z.n (w.heap.size + 2) w2 (.slice b3 DS.z.n.M.length p3) (.slice b4 DS.z.n.C.length p4))
    (hg : w3.heap[w.heap.size]? = some (.cells #[.int .i64 DS.z.ep, .int .i64 DS.z.a.e, .int .i64 DS.z.a.b, .int .i64 DS.z.a.k, .slice b1 DS.z.a.M.length p1, .slice b2 DS.z.a.C.length p2, .int .i64 DS.z.n.e, .int .i64 DS.z.n.b, .int .i64 DS.z.n.k, .slice b3 DS.z.n.M.length p3, .slice b4 DS.z.n.C.length p4, .int .i64 DS.z.s0, .int .i64 DS.z.s1] 42)) (ho : Only w.heap.size w2 w3) : AllRel rs w 0 w3 := by
  obtain ⟨h1, h2, h3, h4, h5⟩ := h
  have hi := inv_of rs 0
  exact ⟨b1, p1, b2, p2, b3, p3, b4, p4, hg, (ho.block _ (lt_heap h1) (by omega)).trans h1, h4.only ho (by omega), h5.only ho (by omega), hi.1, hi.2.1, hi.2.2.1, h2.trans (ho.below (B := w.heap.size) (by omega) h2.size), by have := ho.size; omega⟩
theorem allrel_next (rs : List RC) (w w6 w7 : World) (j : Nat) (S : DS) (r : RC) (sp : DS) (e1 e2 e3 e4 : Option Addr) (n1 n2 n3 n4 : Nat)
    (h : w6.heap[w.heap.size + 1]? = some (.cells #[.int .i64 0, .int .i64 0, .int .i64 0, .int .i64 0, .slice none 0 0, .slice none 0 0, .int .i64 0, .int .i64 0, .int .i64 0, .slice none 0 0, .slice none 0 0, .int .i64 0, .int .i64 0] 42) ∧ Below w.heap.size w w6 ∧ w.heap.size + 2 ≤ w6.heap.size ∧ S = stOf rs j ∧ rs[j]? = some r ∧ sp = doS S r.x r.c ∧ CFO sp.a (w.heap.size + 2) w6 (.slice e1 sp.a.M.length n1) (.slice e2 sp.a.C.length n2) ∧ CFO sp.n (w.heap.size + 2) w6 (.slice e3 sp.n.M.length n3) (.slice e4 sp.n.C.length n4) ∧ short sp.a ∧ short sp.n)
    (hg : w7.heap[w.heap.size]? = some (.cells #[.int .i64 sp.ep, .int .i64 sp.a.e, .int .i64 sp.a.b, .int .i64 sp.a.k, .slice e1 sp.a.M.length n1, .slice e2 sp.a.C.length n2, .int .i64 sp.n.e, .int .i64 sp.n.b, .int .i64 sp.n.k, .slice e3 sp.n.M.length n3, .slice e4 sp.n.C.length n4, .int .i64 sp.s0, .int .i64 sp.s1] 42)) (ho : Only w.heap.size w6 w7) : AllRel rs w (j + 1) w7 := by
  obtain ⟨h1, h2, h3, rfl, h5, rfl, h6, h7, h8, h9⟩ := h
  have hi := inv_of rs (j + 1)
  unfold AllRel
  rw [stOf_next h5] at hi ⊢
  exact ⟨e1, n1, e2, n2, e3, n3, e4, n4, hg, (ho.block _ (lt_heap h1) (by omega)).trans h1, h6.only ho (by omega), h7.only ho (by omega), hi.1, hi.2.1, hi.2.2.1, h2.trans (ho.below (B := w.heap.size) (by omega) h2.size), by have := ho.size; omega⟩
theorem ddo' (s : DS) (x : Int) (c : CF) (a1 a2 a3 a4 a5 a6 : Option Addr) (q1 q2 q3 q4 q5 q6 : Nat) (w : World) (h1 : CFat s.a w (.slice a1 s.a.M.length q1) (.slice a2 s.a.C.length q2)) (h2 : CFat s.n w (.slice a3 s.n.M.length q3) (.slice a4 s.n.C.length q4)) (h3 : short s.a) (h4 : short s.n) (h5 : CFat c w (.slice a5 c.M.length q5) (.slice a6 c.C.length q6)) (h0 : 0 ≤ s.ep) (sp : DS) (hsp : sp = doS s x c) :
    Calls Try.prog 88 #[.agg #[.int .i64 s.ep, .int .i64 s.a.e, .int .i64 s.a.b, .int .i64 s.a.k, .slice a1 s.a.M.length q1, .slice a2 s.a.C.length q2, .int .i64 s.n.e, .int .i64 s.n.b, .int .i64 s.n.k, .slice a3 s.n.M.length q3, .slice a4 s.n.C.length q4, .int .i64 s.s0, .int .i64 s.s1], .agg #[.int .i64 x, .int .i64 c.e, .int .i64 c.b, .int .i64 c.k, .slice a5 c.M.length q5, .slice a6 c.C.length q6]] w fun ev w' => ∃ b1 p1 b2 p2 b3 p3 b4 p4, ev = .returned (.agg #[.int .i64 sp.ep, .int .i64 sp.a.e, .int .i64 sp.a.b, .int .i64 sp.a.k, .slice b1 sp.a.M.length p1, .slice b2 sp.a.C.length p2, .int .i64 sp.n.e, .int .i64 sp.n.b, .int .i64 sp.n.k, .slice b3 sp.n.M.length p3, .slice b4 sp.n.C.length p4, .int .i64 sp.s0, .int .i64 sp.s1]) ∧ CFO sp.a (w.heap.size + 3) w' (.slice b1 sp.a.M.length p1) (.slice b2 sp.a.C.length p2) ∧ CFO sp.n (w.heap.size + 3) w' (.slice b3 sp.n.M.length p3) (.slice b4 sp.n.C.length p4) ∧ short sp.a ∧ short sp.n ∧ Below w.heap.size w w' := by
  subst hsp
  refine (ddo s x c a1 a2 a3 a4 a5 a6 q1 q2 q3 q4 q5 q6 w h1 h2 h3 h4 h5 h0).mono ?_
  rintro ev w' ⟨v', rfl, hv, hb⟩
  obtain ⟨b1, p1, b2, p2, b3, p3, b4, p4, rfl, r1, r2, r3, r4⟩ := svb_form hv
  exact ⟨b1, p1, b2, p2, b3, p3, b4, p4, rfl, r1, r2, r3, r4, hb⟩
set_option maxHeartbeats 3200000 in
set_option maxRecDepth 40000 in
theorem dall (rs : List RC) (v : Value) (w : World) (hE : Elts w RC.cells 6 v rs) (hr : ∀ r ∈ rs, r.at_ w) :
    Calls Try.prog 62 #[.agg #[.int .i64 0, .int .i64 0, .int .i64 0, .int .i64 0, .slice none 0 0, .slice none 0 0, .int .i64 0, .int .i64 0, .int .i64 0, .slice none 0 0, .slice none 0 0, .int .i64 0, .int .i64 0], v] w fun ev w' => ∃ v', ev = .returned v' ∧ SVB (stOf rs rs.length) (w.heap.size + 2) w' v' ∧ Below w.heap.size w w' := by
  obtain ⟨av, cap, rfl, hlen, hcap, hel⟩ := hE
  have hE' : Elts w RC.cells 6 (.slice av rs.length cap) rs := ⟨av, cap, rfl, hlen, hcap, hel⟩
  obtain ⟨hN, hR⟩ := two_blocks w (.cells #[.int .i64 0, .int .i64 0, .int .i64 0, .int .i64 0, .slice none 0 0, .slice none 0 0, .int .i64 0, .int .i64 0, .int .i64 0, .slice none 0 0, .slice none 0 0, .int .i64 0, .int .i64 0] 42) (.cells #[.int .i64 0, .int .i64 0, .int .i64 0, .int .i64 0, .slice none 0 0, .slice none 0 0, .int .i64 0, .int .i64 0, .int .i64 0, .slice none 0 0, .slice none 0 0, .int .i64 0, .int .i64 0] 42)
  have hb : Below w.heap.size w ((w.alloc (.cells #[.int .i64 0, .int .i64 0, .int .i64 0, .int .i64 0, .slice none 0 0, .slice none 0 0, .int .i64 0, .int .i64 0, .int .i64 0, .slice none 0 0, .slice none 0 0, .int .i64 0, .int .i64 0] 42)).alloc (.cells #[.int .i64 0, .int .i64 0, .int .i64 0, .int .i64 0, .slice none 0 0, .slice none 0 0, .int .i64 0, .int .i64 0, .int .i64 0, .slice none 0 0, .slice none 0 0, .int .i64 0, .int .i64 0] 42)) := ((Below.refl _ _).alloc (Nat.le_refl _) _).alloc (by simp) _
  have hz : w.heap.size + 2 ≤ ((w.alloc (.cells #[.int .i64 0, .int .i64 0, .int .i64 0, .int .i64 0, .slice none 0 0, .slice none 0 0, .int .i64 0, .int .i64 0, .int .i64 0, .slice none 0 0, .slice none 0 0, .int .i64 0, .int .i64 0] 42)).alloc (.cells #[.int .i64 0, .int .i64 0, .int .i64 0, .int .i64 0, .slice none 0 0, .slice none 0 0, .int .i64 0, .int .i64 0, .int .i64 0, .slice none 0 0, .slice none 0 0, .int .i64 0, .int .i64 0] 42)).heap.size := by simp
  go_enter Try.func62, Try.ntmps62
  go_upto_region 1 with fail
  generalize (w.alloc (.cells #[.int .i64 0, .int .i64 0, .int .i64 0, .int .i64 0, .slice none 0 0, .slice none 0 0, .int .i64 0, .int .i64 0, .int .i64 0, .slice none 0 0, .slice none 0 0, .int .i64 0, .int .i64 0] 42)).alloc (.cells #[.int .i64 0, .int .i64 0, .int .i64 0, .int .i64 0, .slice none 0 0, .slice none 0 0, .int .i64 0, .int .i64 0, .int .i64 0, .slice none 0 0, .slice none 0 0, .int .i64 0, .int .i64 0] 42) = w1 at *
  have c1 := ostate' DS.z none none none none 0 0 0 0 w1 ⟨SR.nil_ _ _, SR.nil_ _ _⟩ ⟨SR.nil_ _ _, SR.nil_ _ _⟩ (by simp [DS.z, CF.z, short]) (by simp [DS.z, CF.z, short])
  have d0 := cell_atD hN 0 (v := .int .i64 0) rfl
  have d1 := cell_atD hN 1 (v := .int .i64 0) rfl
  have d2 := cell_atD hN 2 (v := .int .i64 0) rfl
  have d3 := cell_atD hN 3 (v := .int .i64 0) rfl
  have d4 := cell_atD hN 4 (v := .slice none 0 0) rfl
  have d5 := cell_atD hN 5 (v := .slice none 0 0) rfl
  have d6 := cell_atD hN 6 (v := .int .i64 0) rfl
  have d7 := cell_atD hN 7 (v := .int .i64 0) rfl
  have d8 := cell_atD hN 8 (v := .int .i64 0) rfl
  have d9 := cell_atD hN 9 (v := .slice none 0 0) rfl
  have d10 := cell_atD hN 10 (v := .slice none 0 0) rfl
  have d11 := cell_atD hN 11 (v := .int .i64 0) rfl
  have d12 := cell_atD hN 12 (v := .int .i64 0) rfl
  have HX := Lib.hid (And.intro hN (And.intro hR (And.intro hb hz)))
  have HL := Lib.hid (And.intro hlen (And.intro hcap (And.intro hel (And.intro hE' hr))))
  clear hN hR hb hz hlen hcap hel hE' hr
  go_wp2_with fail
  refine Calls.mono c1 ?_
  rintro ev w2 ⟨b1, p1, b2, p2, b3, p3, b4, p4, rfl, r1, r2, hb2⟩
  clear d0 d1 d2 d3 d4 d5 d6 d7 d8 d9 d10 d11 d12
  clear c1
  obtain ⟨hN, hR, hb, hz⟩ := HX.out
  have r1 := r1.base hz
  have r2 := r2.base hz
  have kN := below_at hb2 (lt_heap hN) hN
  have kR := below_at hb2 (lt_heap hR) hR
  have kz : w.heap.size + 2 ≤ w2.heap.size := by have := hb2.size; omega
  have kb : Below w.heap.size w w2 := hb.trans (hb2.mono (by omega))
  clear HX hN hR hb hz hb2
  have d0 := cell_atD kN 0 (v := .int .i64 0) rfl
  have d1 := cell_atD kN 1 (v := .int .i64 0) rfl
  have d2 := cell_atD kN 2 (v := .int .i64 0) rfl
  have d3 := cell_atD kN 3 (v := .int .i64 0) rfl
  have d4 := cell_atD kN 4 (v := .slice none 0 0) rfl
  have d5 := cell_atD kN 5 (v := .slice none 0 0) rfl
  have d6 := cell_atD kN 6 (v := .int .i64 0) rfl
  have d7 := cell_atD kN 7 (v := .int .i64 0) rfl
  have d8 := cell_atD kN 8 (v := .int .i64 0) rfl
  have d9 := cell_atD kN 9 (v := .slice none 0 0) rfl
  have d10 := cell_atD kN 10 (v := .slice none 0 0) rfl
  have d11 := cell_atD kN 11 (v := .int .i64 0) rfl
  have d12 := cell_atD kN 12 (v := .int .i64 0) rfl
  have fz : ∀ j, w2.frozen? ⟨w.heap.size, j, none⟩ = false := fun j => by simp [World.frozen?, kN]
  have g1 : (w2.setCell ⟨w.heap.size, 0, none⟩ (.int .i64 DS.z.ep)).heap[w.heap.size]? = some (.cells #[.int .i64 DS.z.ep, .int .i64 0, .int .i64 0, .int .i64 0, .slice none 0 0, .slice none 0 0, .int .i64 0, .int .i64 0, .int .i64 0, .slice none 0 0, .slice none 0 0, .int .i64 0, .int .i64 0] 42) := heap_set_self kN 0 _
  have g2 : ((w2.setCell ⟨w.heap.size, 0, none⟩ (.int .i64 DS.z.ep)).setCell ⟨w.heap.size, 1, none⟩ (.int .i64 DS.z.a.e)).heap[w.heap.size]? = some (.cells #[.int .i64 DS.z.ep, .int .i64 DS.z.a.e, .int .i64 0, .int .i64 0, .slice none 0 0, .slice none 0 0, .int .i64 0, .int .i64 0, .int .i64 0, .slice none 0 0, .slice none 0 0, .int .i64 0, .int .i64 0] 42) := heap_set_self g1 1 _
  have g3 : (((w2.setCell ⟨w.heap.size, 0, none⟩ (.int .i64 DS.z.ep)).setCell ⟨w.heap.size, 1, none⟩ (.int .i64 DS.z.a.e)).setCell ⟨w.heap.size, 2, none⟩ (.int .i64 DS.z.a.b)).heap[w.heap.size]? = some (.cells #[.int .i64 DS.z.ep, .int .i64 DS.z.a.e, .int .i64 DS.z.a.b, .int .i64 0, .slice none 0 0, .slice none 0 0, .int .i64 0, .int .i64 0, .int .i64 0, .slice none 0 0, .slice none 0 0, .int .i64 0, .int .i64 0] 42) := heap_set_self g2 2 _
  have g4 : ((((w2.setCell ⟨w.heap.size, 0, none⟩ (.int .i64 DS.z.ep)).setCell ⟨w.heap.size, 1, none⟩ (.int .i64 DS.z.a.e)).setCell ⟨w.heap.size, 2, none⟩ (.int .i64 DS.z.a.b)).setCell ⟨w.heap.size, 3, none⟩ (.int .i64 DS.z.a.k)).heap[w.heap.size]? = some (.cells #[.int .i64 DS.z.ep, .int .i64 DS.z.a.e, .int .i64 DS.z.a.b, .int .i64 DS.z.a.k, .slice none 0 0, .slice none 0 0, .int .i64 0, .int .i64 0, .int .i64 0, .slice none 0 0, .slice none 0 0, .int .i64 0, .int .i64 0] 42) := heap_set_self g3 3 _
  have g5 : (((((w2.setCell ⟨w.heap.size, 0, none⟩ (.int .i64 DS.z.ep)).setCell ⟨w.heap.size, 1, none⟩ (.int .i64 DS.z.a.e)).setCell ⟨w.heap.size, 2, none⟩ (.int .i64 DS.z.a.b)).setCell ⟨w.heap.size, 3, none⟩ (.int .i64 DS.z.a.k)).setCell ⟨w.heap.size, 4, none⟩ (.slice b1 DS.z.a.M.length p1)).heap[w.heap.size]? = some (.cells #[.int .i64 DS.z.ep, .int .i64 DS.z.a.e, .int .i64 DS.z.a.b, .int .i64 DS.z.a.k, .slice b1 DS.z.a.M.length p1, .slice none 0 0, .int .i64 0, .int .i64 0, .int .i64 0, .slice none 0 0, .slice none 0 0, .int .i64 0, .int .i64 0] 42) := heap_set_self g4 4 _
  have g6 : ((((((w2.setCell ⟨w.heap.size, 0, none⟩ (.int .i64 DS.z.ep)).setCell ⟨w.heap.size, 1, none⟩ (.int .i64 DS.z.a.e)).setCell ⟨w.heap.size, 2, none⟩ (.int .i64 DS.z.a.b)).setCell ⟨w.heap.size, 3, none⟩ (.int .i64 DS.z.a.k)).setCell ⟨w.heap.size, 4, none⟩ (.slice b1 DS.z.a.M.length p1)).setCell ⟨w.heap.size, 5, none⟩ (.slice b2 DS.z.a.C.length p2)).heap[w.heap.size]? = some (.cells #[.int .i64 DS.z.ep, .int .i64 DS.z.a.e, .int .i64 DS.z.a.b, .int .i64 DS.z.a.k, .slice b1 DS.z.a.M.length p1, .slice b2 DS.z.a.C.length p2, .int .i64 0, .int .i64 0, .int .i64 0, .slice none 0 0, .slice none 0 0, .int .i64 0, .int .i64 0] 42) := heap_set_self g5 5 _
  have g7 : (((((((w2.setCell ⟨w.heap.size, 0, none⟩ (.int .i64 DS.z.ep)).setCell ⟨w.heap.size, 1, none⟩ (.int .i64 DS.z.a.e)).setCell ⟨w.heap.size, 2, none⟩ (.int .i64 DS.z.a.b)).setCell ⟨w.heap.size, 3, none⟩ (.int .i64 DS.z.a.k)).setCell ⟨w.heap.size, 4, none⟩ (.slice b1 DS.z.a.M.length p1)).setCell ⟨w.heap.size, 5, none⟩ (.slice b2 DS.z.a.C.length p2)).setCell ⟨w.heap.size, 6, none⟩ (.int .i64 DS.z.n.e)).heap[w.heap.size]? = some (.cells #[.int .i64 DS.z.ep, .int .i64 DS.z.a.e, .int .i64 DS.z.a.b, .int .i64 DS.z.a.k, .slice b1 DS.z.a.M.length p1, .slice b2 DS.z.a.C.length p2, .int .i64 DS.z.n.e, .int .i64 0, .int .i64 0, .slice none 0 0, .slice none 0 0, .int .i64 0, .int .i64 0] 42) := heap_set_self g6 6 _
  have g8 : ((((((((w2.setCell ⟨w.heap.size, 0, none⟩ (.int .i64 DS.z.ep)).setCell ⟨w.heap.size, 1, none⟩ (.int .i64 DS.z.a.e)).setCell ⟨w.heap.size, 2, none⟩ (.int .i64 DS.z.a.b)).setCell ⟨w.heap.size, 3, none⟩ (.int .i64 DS.z.a.k)).setCell ⟨w.heap.size, 4, none⟩ (.slice b1 DS.z.a.M.length p1)).setCell ⟨w.heap.size, 5, none⟩ (.slice b2 DS.z.a.C.length p2)).setCell ⟨w.heap.size, 6, none⟩ (.int .i64 DS.z.n.e)).setCell ⟨w.heap.size, 7, none⟩ (.int .i64 DS.z.n.b)).heap[w.heap.size]? = some (.cells #[.int .i64 DS.z.ep, .int .i64 DS.z.a.e, .int .i64 DS.z.a.b, .int .i64 DS.z.a.k, .slice b1 DS.z.a.M.length p1, .slice b2 DS.z.a.C.length p2, .int .i64 DS.z.n.e, .int .i64 DS.z.n.b, .int .i64 0, .slice none 0 0, .slice none 0 0, .int .i64 0, .int .i64 0] 42) := heap_set_self g7 7 _
  have g9 : (((((((((w2.setCell ⟨w.heap.size, 0, none⟩ (.int .i64 DS.z.ep)).setCell ⟨w.heap.size, 1, none⟩ (.int .i64 DS.z.a.e)).setCell ⟨w.heap.size, 2, none⟩ (.int .i64 DS.z.a.b)).setCell ⟨w.heap.size, 3, none⟩ (.int .i64 DS.z.a.k)).setCell ⟨w.heap.size, 4, none⟩ (.slice b1 DS.z.a.M.length p1)).setCell ⟨w.heap.size, 5, none⟩ (.slice b2 DS.z.a.C.length p2)).setCell ⟨w.heap.size, 6, none⟩ (.int .i64 DS.z.n.e)).setCell ⟨w.heap.size, 7, none⟩ (.int .i64 DS.z.n.b)).setCell ⟨w.heap.size, 8, none⟩ (.int .i64 DS.z.n.k)).heap[w.heap.size]? = some (.cells #[.int .i64 DS.z.ep, .int .i64 DS.z.a.e, .int .i64 DS.z.a.b, .int .i64 DS.z.a.k, .slice b1 DS.z.a.M.length p1, .slice b2 DS.z.a.C.length p2, .int .i64 DS.z.n.e, .int .i64 DS.z.n.b, .int .i64 DS.z.n.k, .slice none 0 0, .slice none 0 0, .int .i64 0, .int .i64 0] 42) := heap_set_self g8 8 _
  have g10 : ((((((((((w2.setCell ⟨w.heap.size, 0, none⟩ (.int .i64 DS.z.ep)).setCell ⟨w.heap.size, 1, none⟩ (.int .i64 DS.z.a.e)).setCell ⟨w.heap.size, 2, none⟩ (.int .i64 DS.z.a.b)).setCell ⟨w.heap.size, 3, none⟩ (.int .i64 DS.z.a.k)).setCell ⟨w.heap.size, 4, none⟩ (.slice b1 DS.z.a.M.length p1)).setCell ⟨w.heap.size, 5, none⟩ (.slice b2 DS.z.a.C.length p2)).setCell ⟨w.heap.size, 6, none⟩ (.int .i64 DS.z.n.e)).setCell ⟨w.heap.size, 7, none⟩ (.int .i64 DS.z.n.b)).setCell ⟨w.heap.size, 8, none⟩ (.int .i64 DS.z.n.k)).setCell ⟨w.heap.size, 9, none⟩ (.slice b3 DS.z.n.M.length p3)).heap[w.heap.size]? = some (.cells #[.int .i64 DS.z.ep, .int .i64 DS.z.a.e, .int .i64 DS.z.a.b, .int .i64 DS.z.a.k, .slice b1 DS.z.a.M.length p1, .slice b2 DS.z.a.C.length p2, .int .i64 DS.z.n.e, .int .i64 DS.z.n.b, .int .i64 DS.z.n.k, .slice b3 DS.z.n.M.length p3, .slice none 0 0, .int .i64 0, .int .i64 0] 42) := heap_set_self g9 9 _
  have g11 : (((((((((((w2.setCell ⟨w.heap.size, 0, none⟩ (.int .i64 DS.z.ep)).setCell ⟨w.heap.size, 1, none⟩ (.int .i64 DS.z.a.e)).setCell ⟨w.heap.size, 2, none⟩ (.int .i64 DS.z.a.b)).setCell ⟨w.heap.size, 3, none⟩ (.int .i64 DS.z.a.k)).setCell ⟨w.heap.size, 4, none⟩ (.slice b1 DS.z.a.M.length p1)).setCell ⟨w.heap.size, 5, none⟩ (.slice b2 DS.z.a.C.length p2)).setCell ⟨w.heap.size, 6, none⟩ (.int .i64 DS.z.n.e)).setCell ⟨w.heap.size, 7, none⟩ (.int .i64 DS.z.n.b)).setCell ⟨w.heap.size, 8, none⟩ (.int .i64 DS.z.n.k)).setCell ⟨w.heap.size, 9, none⟩ (.slice b3 DS.z.n.M.length p3)).setCell ⟨w.heap.size, 10, none⟩ (.slice b4 DS.z.n.C.length p4)).heap[w.heap.size]? = some (.cells #[.int .i64 DS.z.ep, .int .i64 DS.z.a.e, .int .i64 DS.z.a.b, .int .i64 DS.z.a.k, .slice b1 DS.z.a.M.length p1, .slice b2 DS.z.a.C.length p2, .int .i64 DS.z.n.e, .int .i64 DS.z.n.b, .int .i64 DS.z.n.k, .slice b3 DS.z.n.M.length p3, .slice b4 DS.z.n.C.length p4, .int .i64 0, .int .i64 0] 42) := heap_set_self g10 10 _
  have g12 : ((((((((((((w2.setCell ⟨w.heap.size, 0, none⟩ (.int .i64 DS.z.ep)).setCell ⟨w.heap.size, 1, none⟩ (.int .i64 DS.z.a.e)).setCell ⟨w.heap.size, 2, none⟩ (.int .i64 DS.z.a.b)).setCell ⟨w.heap.size, 3, none⟩ (.int .i64 DS.z.a.k)).setCell ⟨w.heap.size, 4, none⟩ (.slice b1 DS.z.a.M.length p1)).setCell ⟨w.heap.size, 5, none⟩ (.slice b2 DS.z.a.C.length p2)).setCell ⟨w.heap.size, 6, none⟩ (.int .i64 DS.z.n.e)).setCell ⟨w.heap.size, 7, none⟩ (.int .i64 DS.z.n.b)).setCell ⟨w.heap.size, 8, none⟩ (.int .i64 DS.z.n.k)).setCell ⟨w.heap.size, 9, none⟩ (.slice b3 DS.z.n.M.length p3)).setCell ⟨w.heap.size, 10, none⟩ (.slice b4 DS.z.n.C.length p4)).setCell ⟨w.heap.size, 11, none⟩ (.int .i64 DS.z.s0)).heap[w.heap.size]? = some (.cells #[.int .i64 DS.z.ep, .int .i64 DS.z.a.e, .int .i64 DS.z.a.b, .int .i64 DS.z.a.k, .slice b1 DS.z.a.M.length p1, .slice b2 DS.z.a.C.length p2, .int .i64 DS.z.n.e, .int .i64 DS.z.n.b, .int .i64 DS.z.n.k, .slice b3 DS.z.n.M.length p3, .slice b4 DS.z.n.C.length p4, .int .i64 DS.z.s0, .int .i64 0] 42) := heap_set_self g11 11 _
  have g13 : (((((((((((((w2.setCell ⟨w.heap.size, 0, none⟩ (.int .i64 DS.z.ep)).setCell ⟨w.heap.size, 1, none⟩ (.int .i64 DS.z.a.e)).setCell ⟨w.heap.size, 2, none⟩ (.int .i64 DS.z.a.b)).setCell ⟨w.heap.size, 3, none⟩ (.int .i64 DS.z.a.k)).setCell ⟨w.heap.size, 4, none⟩ (.slice b1 DS.z.a.M.length p1)).setCell ⟨w.heap.size, 5, none⟩ (.slice b2 DS.z.a.C.length p2)).setCell ⟨w.heap.size, 6, none⟩ (.int .i64 DS.z.n.e)).setCell ⟨w.heap.size, 7, none⟩ (.int .i64 DS.z.n.b)).setCell ⟨w.heap.size, 8, none⟩ (.int .i64 DS.z.n.k)).setCell ⟨w.heap.size, 9, none⟩ (.slice b3 DS.z.n.M.length p3)).setCell ⟨w.heap.size, 10, none⟩ (.slice b4 DS.z.n.C.length p4)).setCell ⟨w.heap.size, 11, none⟩ (.int .i64 DS.z.s0)).setCell ⟨w.heap.size, 12, none⟩ (.int .i64 DS.z.s1)).heap[w.heap.size]? = some (.cells #[.int .i64 DS.z.ep, .int .i64 DS.z.a.e, .int .i64 DS.z.a.b, .int .i64 DS.z.a.k, .slice b1 DS.z.a.M.length p1, .slice b2 DS.z.a.C.length p2, .int .i64 DS.z.n.e, .int .i64 DS.z.n.b, .int .i64 DS.z.n.k, .slice b3 DS.z.n.M.length p3, .slice b4 DS.z.n.C.length p4, .int .i64 DS.z.s0, .int .i64 DS.z.s1] 42) := heap_set_self g12 12 _
  have gI := Lib.hid g13
  have gO := Lib.hid (show Only (w.heap.size) w2 (((((((((((((w2.setCell ⟨w.heap.size, 0, none⟩ (.int .i64 DS.z.ep)).setCell ⟨w.heap.size, 1, none⟩ (.int .i64 DS.z.a.e)).setCell ⟨w.heap.size, 2, none⟩ (.int .i64 DS.z.a.b)).setCell ⟨w.heap.size, 3, none⟩ (.int .i64 DS.z.a.k)).setCell ⟨w.heap.size, 4, none⟩ (.slice b1 DS.z.a.M.length p1)).setCell ⟨w.heap.size, 5, none⟩ (.slice b2 DS.z.a.C.length p2)).setCell ⟨w.heap.size, 6, none⟩ (.int .i64 DS.z.n.e)).setCell ⟨w.heap.size, 7, none⟩ (.int .i64 DS.z.n.b)).setCell ⟨w.heap.size, 8, none⟩ (.int .i64 DS.z.n.k)).setCell ⟨w.heap.size, 9, none⟩ (.slice b3 DS.z.n.M.length p3)).setCell ⟨w.heap.size, 10, none⟩ (.slice b4 DS.z.n.C.length p4)).setCell ⟨w.heap.size, 11, none⟩ (.int .i64 DS.z.s0)).setCell ⟨w.heap.size, 12, none⟩ (.int .i64 DS.z.s1)) from ((((((((((((((Only.refl _ _).set 0 _).set 1 _).set 2 _).set 3 _).set 4 _).set 5 _).set 6 _).set 7 _).set 8 _).set 9 _).set 10 _).set 11 _).set 12 _))
  clear g1 g2 g3 g4 g5 g6 g7 g8 g9 g10 g11 g12 g13
  have HX := Lib.hid (And.intro kR (And.intro kb (And.intro kz (And.intro r1 r2))))
  clear kN kR kb kz r1 r2
  go_upto_region 2 with fail
  generalize (((((((((((((w2.setCell ⟨w.heap.size, 0, none⟩ (.int .i64 DS.z.ep)).setCell ⟨w.heap.size, 1, none⟩ (.int .i64 DS.z.a.e)).setCell ⟨w.heap.size, 2, none⟩ (.int .i64 DS.z.a.b)).setCell ⟨w.heap.size, 3, none⟩ (.int .i64 DS.z.a.k)).setCell ⟨w.heap.size, 4, none⟩ (.slice b1 DS.z.a.M.length p1)).setCell ⟨w.heap.size, 5, none⟩ (.slice b2 DS.z.a.C.length p2)).setCell ⟨w.heap.size, 6, none⟩ (.int .i64 DS.z.n.e)).setCell ⟨w.heap.size, 7, none⟩ (.int .i64 DS.z.n.b)).setCell ⟨w.heap.size, 8, none⟩ (.int .i64 DS.z.n.k)).setCell ⟨w.heap.size, 9, none⟩ (.slice b3 DS.z.n.M.length p3)).setCell ⟨w.heap.size, 10, none⟩ (.slice b4 DS.z.n.C.length p4)).setCell ⟨w.heap.size, 11, none⟩ (.int .i64 DS.z.s0)).setCell ⟨w.heap.size, 12, none⟩ (.int .i64 DS.z.s1)) = w3 at *
  clear d0 d1 d2 d3 d4 d5 d6 d7 d8 d9 d10 d11 d12
  clear fz
  have hA := allrel_start rs w w2 w3 b1 b2 b3 b4 p1 p2 p3 p4 HX.out gI.out gO.out
  clear HX gI gO
  have HA := Lib.hid hA
  clear hA
  go_wp2_with fail
  go_loopw [11] (fun i wr => ∃ j : Nat, j ≤ rs.length ∧ i = .int .i64 j ∧ AllRel rs w j wr) (fun i _ => rs.length - (intOf i).toNat)
  case atStart => exact ⟨0, by omega, rfl, HA.out⟩
  case round =>
    obtain ⟨j, hj, rfl, b1, p1, b2, p2, b3, p3, b4, p4, hN, hR, r1, r2, h3, h4, h0, hb, hz⟩ := hrel
    clear HA
    obtain ⟨S, hS⟩ : ∃ S, S = stOf rs j := ⟨_, rfl⟩
    simp only [← hS] at hN r1 r2 h3 h4 h0
    by_cases hjl : j < rs.length
    · have hjl' : (j : Int) < (rs.length : Int) := by omega
      obtain ⟨r, hrj⟩ : ∃ r, rs[j]? = some r := ⟨_, List.getElem?_eq_getElem hjl⟩
      have hra := HL.out.2.2.2.2 r (List.mem_of_getElem? hrj)
      obtain ⟨-, g, off, rfl, hg, hc⟩ := HL.out.2.2.2.1.at_ hrj
      have l0 : wr.cell? ⟨g, off + j * 6, none⟩ = some (.int .i64 r.x) := (hb.cell (p := ⟨g, off + j * 6, none⟩) hg).trans (hc 0 _ rfl)
      have l1 : wr.cell? ⟨g, off + j * 6 + 1, none⟩ = some (.int .i64 r.c.e) := (hb.cell (p := ⟨g, off + j * 6 + 1, none⟩) hg).trans (hc 1 _ rfl)
      have l2 : wr.cell? ⟨g, off + j * 6 + 2, none⟩ = some (.int .i64 r.c.b) := (hb.cell (p := ⟨g, off + j * 6 + 2, none⟩) hg).trans (hc 2 _ rfl)
      have l3 : wr.cell? ⟨g, off + j * 6 + 3, none⟩ = some (.int .i64 r.c.k) := (hb.cell (p := ⟨g, off + j * 6 + 3, none⟩) hg).trans (hc 3 _ rfl)
      have l4 : wr.cell? ⟨g, off + j * 6 + 4, none⟩ = some (.slice r.a5 r.c.M.length r.q5) := (hb.cell (p := ⟨g, off + j * 6 + 4, none⟩) hg).trans (hc 4 _ rfl)
      have l5 : wr.cell? ⟨g, off + j * 6 + 5, none⟩ = some (.slice r.a6 r.c.C.length r.q6) := (hb.cell (p := ⟨g, off + j * 6 + 5, none⟩) hg).trans (hc 5 _ rfl)
      have hM := heap_alloc_self wr (.cells #[.int .i64 r.x, .int .i64 r.c.e, .int .i64 r.c.b, .int .i64 r.c.k, .slice r.a5 r.c.M.length r.q5, .slice r.a6 r.c.C.length r.q6] 26)
      have kN := alloc_far (o := .cells #[.int .i64 r.x, .int .i64 r.c.e, .int .i64 r.c.b, .int .i64 r.c.k, .slice r.a5 r.c.M.length r.q5, .slice r.a6 r.c.C.length r.q6] 26) hN
      have kR := alloc_far (o := .cells #[.int .i64 r.x, .int .i64 r.c.e, .int .i64 r.c.b, .int .i64 r.c.k, .slice r.a5 r.c.M.length r.q5, .slice r.a6 r.c.C.length r.q6] 26) hR
      have hba : Below wr.heap.size wr (wr.alloc (.cells #[.int .i64 r.x, .int .i64 r.c.e, .int .i64 r.c.b, .int .i64 r.c.k, .slice r.a5 r.c.M.length r.q5, .slice r.a6 r.c.C.length r.q6] 26)) := (Below.refl _ _).alloc (Nat.le_refl _) _
      have kr1 := r1.below hba
      have kr2 := r2.below hba
      have kb := hb.trans (hba.mono hb.size)
      have kz : w.heap.size + 2 ≤ (wr.alloc (.cells #[.int .i64 r.x, .int .i64 r.c.e, .int .i64 r.c.b, .int .i64 r.c.k, .slice r.a5 r.c.M.length r.q5, .slice r.a6 r.c.C.length r.q6] 26)).heap.size := by simp; omega
      have kra := CFat.below hra kb
      have HY := Lib.hid (And.intro kN (And.intro kR (And.intro kr1 (And.intro kr2 (And.intro h3 (And.intro h4 (And.intro h0 (And.intro kb (And.intro kz (And.intro hM (And.intro kra (And.intro hS (hrj)))))))))))))
      clear hN hR r1 r2 h3 h4 h0 hb hz hM hra hS hrj hc kN kR kr1 kr2 kb kz kra hba
      go_upto_region 5 with fail
      generalize wr.alloc (.cells #[.int .i64 r.x, .int .i64 r.c.e, .int .i64 r.c.b, .int .i64 r.c.k, .slice r.a5 r.c.M.length r.q5, .slice r.a6 r.c.C.length r.q6] 26) = w5 at *
      clear l0 l1 l2 l3 l4 l5
      obtain ⟨kN, kR, kr1, kr2, h3, h4, h0, kb, kz, hM, kra, hS, hrj⟩ := HY.out
      clear HY
      obtain ⟨sp, hsp⟩ : ∃ sp, sp = doS S r.x r.c := ⟨_, rfl⟩
      have c1 := ddo' S r.x r.c b1 b2 b3 b4 r.a5 r.a6 p1 p2 p3 p4 r.q5 r.q6 w5 kr1.at_ kr2.at_ h3 h4 kra h0 sp hsp
      have d0 := cell_atD kN 0 (v := .int .i64 S.ep) rfl
      have d1 := cell_atD kN 1 (v := .int .i64 S.a.e) rfl
      have d2 := cell_atD kN 2 (v := .int .i64 S.a.b) rfl
      have d3 := cell_atD kN 3 (v := .int .i64 S.a.k) rfl
      have d4 := cell_atD kN 4 (v := .slice b1 S.a.M.length p1) rfl
      have d5 := cell_atD kN 5 (v := .slice b2 S.a.C.length p2) rfl
      have d6 := cell_atD kN 6 (v := .int .i64 S.n.e) rfl
      have d7 := cell_atD kN 7 (v := .int .i64 S.n.b) rfl
      have d8 := cell_atD kN 8 (v := .int .i64 S.n.k) rfl
      have d9 := cell_atD kN 9 (v := .slice b3 S.n.M.length p3) rfl
      have d10 := cell_atD kN 10 (v := .slice b4 S.n.C.length p4) rfl
      have d11 := cell_atD kN 11 (v := .int .i64 S.s0) rfl
      have d12 := cell_atD kN 12 (v := .int .i64 S.s1) rfl
      have m0 := cell_atD hM 0 (v := .int .i64 r.x) rfl
      have m1 := cell_atD hM 1 (v := .int .i64 r.c.e) rfl
      have m2 := cell_atD hM 2 (v := .int .i64 r.c.b) rfl
      have m3 := cell_atD hM 3 (v := .int .i64 r.c.k) rfl
      have m4 := cell_atD hM 4 (v := .slice r.a5 r.c.M.length r.q5) rfl
      have m5 := cell_atD hM 5 (v := .slice r.a6 r.c.C.length r.q6) rfl
      have HY := Lib.hid (And.intro kN (And.intro kR (And.intro kb (And.intro kz (And.intro hS (And.intro hrj (hsp)))))))
      clear kN kR kr1 kr2 h3 h4 h0 kb kz hM kra hS hrj hsp
      go_wp2_with fail
      refine Calls.mono c1 ?_
      rintro ev w6 ⟨e1, n1, e2, n2, e3, n3, e4, n4, rfl, r1, r2, h3, h4, hb6⟩
      clear d0 d1 d2 d3 d4 d5 d6 d7 d8 d9 d10 d11 d12
      clear m0 m1 m2 m3 m4 m5
      clear c1
      obtain ⟨kN, kR, kb, kz, hS, hrj, hsp⟩ := HY.out
      clear HY
      have qN := below_at hb6 (lt_heap kN) kN
      have qR := below_at hb6 (lt_heap kR) kR
      have qb := kb.trans (hb6.mono kb.size)
      have qz : w.heap.size + 2 ≤ w6.heap.size := by have := hb6.size; omega
      have r1 := r1.base (show w.heap.size + 2 ≤ w5.heap.size + 3 by omega)
      have r2 := r2.base (show w.heap.size + 2 ≤ w5.heap.size + 3 by omega)
      have d0 := cell_atD qN 0 (v := .int .i64 S.ep) rfl
      have d1 := cell_atD qN 1 (v := .int .i64 S.a.e) rfl
      have d2 := cell_atD qN 2 (v := .int .i64 S.a.b) rfl
      have d3 := cell_atD qN 3 (v := .int .i64 S.a.k) rfl
      have d4 := cell_atD qN 4 (v := .slice b1 S.a.M.length p1) rfl
      have d5 := cell_atD qN 5 (v := .slice b2 S.a.C.length p2) rfl
      have d6 := cell_atD qN 6 (v := .int .i64 S.n.e) rfl
      have d7 := cell_atD qN 7 (v := .int .i64 S.n.b) rfl
      have d8 := cell_atD qN 8 (v := .int .i64 S.n.k) rfl
      have d9 := cell_atD qN 9 (v := .slice b3 S.n.M.length p3) rfl
      have d10 := cell_atD qN 10 (v := .slice b4 S.n.C.length p4) rfl
      have d11 := cell_atD qN 11 (v := .int .i64 S.s0) rfl
      have d12 := cell_atD qN 12 (v := .int .i64 S.s1) rfl
      have hcl := Nat.le_trans HL.out.1 HL.out.2.1
      unfold maxLen at hcl
      have fz : ∀ j, w6.frozen? ⟨w.heap.size, j, none⟩ = false := fun j => by simp [World.frozen?, qN]
      have g1 : (w6.setCell ⟨w.heap.size, 0, none⟩ (.int .i64 sp.ep)).heap[w.heap.size]? = some (.cells #[.int .i64 sp.ep, .int .i64 S.a.e, .int .i64 S.a.b, .int .i64 S.a.k, .slice b1 S.a.M.length p1, .slice b2 S.a.C.length p2, .int .i64 S.n.e, .int .i64 S.n.b, .int .i64 S.n.k, .slice b3 S.n.M.length p3, .slice b4 S.n.C.length p4, .int .i64 S.s0, .int .i64 S.s1] 42) := heap_set_self qN 0 _
      have g2 : ((w6.setCell ⟨w.heap.size, 0, none⟩ (.int .i64 sp.ep)).setCell ⟨w.heap.size, 1, none⟩ (.int .i64 sp.a.e)).heap[w.heap.size]? = some (.cells #[.int .i64 sp.ep, .int .i64 sp.a.e, .int .i64 S.a.b, .int .i64 S.a.k, .slice b1 S.a.M.length p1, .slice b2 S.a.C.length p2, .int .i64 S.n.e, .int .i64 S.n.b, .int .i64 S.n.k, .slice b3 S.n.M.length p3, .slice b4 S.n.C.length p4, .int .i64 S.s0, .int .i64 S.s1] 42) := heap_set_self g1 1 _
      have g3 : (((w6.setCell ⟨w.heap.size, 0, none⟩ (.int .i64 sp.ep)).setCell ⟨w.heap.size, 1, none⟩ (.int .i64 sp.a.e)).setCell ⟨w.heap.size, 2, none⟩ (.int .i64 sp.a.b)).heap[w.heap.size]? = some (.cells #[.int .i64 sp.ep, .int .i64 sp.a.e, .int .i64 sp.a.b, .int .i64 S.a.k, .slice b1 S.a.M.length p1, .slice b2 S.a.C.length p2, .int .i64 S.n.e, .int .i64 S.n.b, .int .i64 S.n.k, .slice b3 S.n.M.length p3, .slice b4 S.n.C.length p4, .int .i64 S.s0, .int .i64 S.s1] 42) := heap_set_self g2 2 _
      have g4 : ((((w6.setCell ⟨w.heap.size, 0, none⟩ (.int .i64 sp.ep)).setCell ⟨w.heap.size, 1, none⟩ (.int .i64 sp.a.e)).setCell ⟨w.heap.size, 2, none⟩ (.int .i64 sp.a.b)).setCell ⟨w.heap.size, 3, none⟩ (.int .i64 sp.a.k)).heap[w.heap.size]? = some (.cells #[.int .i64 sp.ep, .int .i64 sp.a.e, .int .i64 sp.a.b, .int .i64 sp.a.k, .slice b1 S.a.M.length p1, .slice b2 S.a.C.length p2, .int .i64 S.n.e, .int .i64 S.n.b, .int .i64 S.n.k, .slice b3 S.n.M.length p3, .slice b4 S.n.C.length p4, .int .i64 S.s0, .int .i64 S.s1] 42) := heap_set_self g3 3 _
      have g5 : (((((w6.setCell ⟨w.heap.size, 0, none⟩ (.int .i64 sp.ep)).setCell ⟨w.heap.size, 1, none⟩ (.int .i64 sp.a.e)).setCell ⟨w.heap.size, 2, none⟩ (.int .i64 sp.a.b)).setCell ⟨w.heap.size, 3, none⟩ (.int .i64 sp.a.k)).setCell ⟨w.heap.size, 4, none⟩ (.slice e1 sp.a.M.length n1)).heap[w.heap.size]? = some (.cells #[.int .i64 sp.ep, .int .i64 sp.a.e, .int .i64 sp.a.b, .int .i64 sp.a.k, .slice e1 sp.a.M.length n1, .slice b2 S.a.C.length p2, .int .i64 S.n.e, .int .i64 S.n.b, .int .i64 S.n.k, .slice b3 S.n.M.length p3, .slice b4 S.n.C.length p4, .int .i64 S.s0, .int .i64 S.s1] 42) := heap_set_self g4 4 _
      have g6 : ((((((w6.setCell ⟨w.heap.size, 0, none⟩ (.int .i64 sp.ep)).setCell ⟨w.heap.size, 1, none⟩ (.int .i64 sp.a.e)).setCell ⟨w.heap.size, 2, none⟩ (.int .i64 sp.a.b)).setCell ⟨w.heap.size, 3, none⟩ (.int .i64 sp.a.k)).setCell ⟨w.heap.size, 4, none⟩ (.slice e1 sp.a.M.length n1)).setCell ⟨w.heap.size, 5, none⟩ (.slice e2 sp.a.C.length n2)).heap[w.heap.size]? = some (.cells #[.int .i64 sp.ep, .int .i64 sp.a.e, .int .i64 sp.a.b, .int .i64 sp.a.k, .slice e1 sp.a.M.length n1, .slice e2 sp.a.C.length n2, .int .i64 S.n.e, .int .i64 S.n.b, .int .i64 S.n.k, .slice b3 S.n.M.length p3, .slice b4 S.n.C.length p4, .int .i64 S.s0, .int .i64 S.s1] 42) := heap_set_self g5 5 _
      have g7 : (((((((w6.setCell ⟨w.heap.size, 0, none⟩ (.int .i64 sp.ep)).setCell ⟨w.heap.size, 1, none⟩ (.int .i64 sp.a.e)).setCell ⟨w.heap.size, 2, none⟩ (.int .i64 sp.a.b)).setCell ⟨w.heap.size, 3, none⟩ (.int .i64 sp.a.k)).setCell ⟨w.heap.size, 4, none⟩ (.slice e1 sp.a.M.length n1)).setCell ⟨w.heap.size, 5, none⟩ (.slice e2 sp.a.C.length n2)).setCell ⟨w.heap.size, 6, none⟩ (.int .i64 sp.n.e)).heap[w.heap.size]? = some (.cells #[.int .i64 sp.ep, .int .i64 sp.a.e, .int .i64 sp.a.b, .int .i64 sp.a.k, .slice e1 sp.a.M.length n1, .slice e2 sp.a.C.length n2, .int .i64 sp.n.e, .int .i64 S.n.b, .int .i64 S.n.k, .slice b3 S.n.M.length p3, .slice b4 S.n.C.length p4, .int .i64 S.s0, .int .i64 S.s1] 42) := heap_set_self g6 6 _
      have g8 : ((((((((w6.setCell ⟨w.heap.size, 0, none⟩ (.int .i64 sp.ep)).setCell ⟨w.heap.size, 1, none⟩ (.int .i64 sp.a.e)).setCell ⟨w.heap.size, 2, none⟩ (.int .i64 sp.a.b)).setCell ⟨w.heap.size, 3, none⟩ (.int .i64 sp.a.k)).setCell ⟨w.heap.size, 4, none⟩ (.slice e1 sp.a.M.length n1)).setCell ⟨w.heap.size, 5, none⟩ (.slice e2 sp.a.C.length n2)).setCell ⟨w.heap.size, 6, none⟩ (.int .i64 sp.n.e)).setCell ⟨w.heap.size, 7, none⟩ (.int .i64 sp.n.b)).heap[w.heap.size]? = some (.cells #[.int .i64 sp.ep, .int .i64 sp.a.e, .int .i64 sp.a.b, .int .i64 sp.a.k, .slice e1 sp.a.M.length n1, .slice e2 sp.a.C.length n2, .int .i64 sp.n.e, .int .i64 sp.n.b, .int .i64 S.n.k, .slice b3 S.n.M.length p3, .slice b4 S.n.C.length p4, .int .i64 S.s0, .int .i64 S.s1] 42) := heap_set_self g7 7 _
      have g9 : (((((((((w6.setCell ⟨w.heap.size, 0, none⟩ (.int .i64 sp.ep)).setCell ⟨w.heap.size, 1, none⟩ (.int .i64 sp.a.e)).setCell ⟨w.heap.size, 2, none⟩ (.int .i64 sp.a.b)).setCell ⟨w.heap.size, 3, none⟩ (.int .i64 sp.a.k)).setCell ⟨w.heap.size, 4, none⟩ (.slice e1 sp.a.M.length n1)).setCell ⟨w.heap.size, 5, none⟩ (.slice e2 sp.a.C.length n2)).setCell ⟨w.heap.size, 6, none⟩ (.int .i64 sp.n.e)).setCell ⟨w.heap.size, 7, none⟩ (.int .i64 sp.n.b)).setCell ⟨w.heap.size, 8, none⟩ (.int .i64 sp.n.k)).heap[w.heap.size]? = some (.cells #[.int .i64 sp.ep, .int .i64 sp.a.e, .int .i64 sp.a.b, .int .i64 sp.a.k, .slice e1 sp.a.M.length n1, .slice e2 sp.a.C.length n2, .int .i64 sp.n.e, .int .i64 sp.n.b, .int .i64 sp.n.k, .slice b3 S.n.M.length p3, .slice b4 S.n.C.length p4, .int .i64 S.s0, .int .i64 S.s1] 42) := heap_set_self g8 8 _
      have g10 : ((((((((((w6.setCell ⟨w.heap.size, 0, none⟩ (.int .i64 sp.ep)).setCell ⟨w.heap.size, 1, none⟩ (.int .i64 sp.a.e)).setCell ⟨w.heap.size, 2, none⟩ (.int .i64 sp.a.b)).setCell ⟨w.heap.size, 3, none⟩ (.int .i64 sp.a.k)).setCell ⟨w.heap.size, 4, none⟩ (.slice e1 sp.a.M.length n1)).setCell ⟨w.heap.size, 5, none⟩ (.slice e2 sp.a.C.length n2)).setCell ⟨w.heap.size, 6, none⟩ (.int .i64 sp.n.e)).setCell ⟨w.heap.size, 7, none⟩ (.int .i64 sp.n.b)).setCell ⟨w.heap.size, 8, none⟩ (.int .i64 sp.n.k)).setCell ⟨w.heap.size, 9, none⟩ (.slice e3 sp.n.M.length n3)).heap[w.heap.size]? = some (.cells #[.int .i64 sp.ep, .int .i64 sp.a.e, .int .i64 sp.a.b, .int .i64 sp.a.k, .slice e1 sp.a.M.length n1, .slice e2 sp.a.C.length n2, .int .i64 sp.n.e, .int .i64 sp.n.b, .int .i64 sp.n.k, .slice e3 sp.n.M.length n3, .slice b4 S.n.C.length p4, .int .i64 S.s0, .int .i64 S.s1] 42) := heap_set_self g9 9 _
      have g11 : (((((((((((w6.setCell ⟨w.heap.size, 0, none⟩ (.int .i64 sp.ep)).setCell ⟨w.heap.size, 1, none⟩ (.int .i64 sp.a.e)).setCell ⟨w.heap.size, 2, none⟩ (.int .i64 sp.a.b)).setCell ⟨w.heap.size, 3, none⟩ (.int .i64 sp.a.k)).setCell ⟨w.heap.size, 4, none⟩ (.slice e1 sp.a.M.length n1)).setCell ⟨w.heap.size, 5, none⟩ (.slice e2 sp.a.C.length n2)).setCell ⟨w.heap.size, 6, none⟩ (.int .i64 sp.n.e)).setCell ⟨w.heap.size, 7, none⟩ (.int .i64 sp.n.b)).setCell ⟨w.heap.size, 8, none⟩ (.int .i64 sp.n.k)).setCell ⟨w.heap.size, 9, none⟩ (.slice e3 sp.n.M.length n3)).setCell ⟨w.heap.size, 10, none⟩ (.slice e4 sp.n.C.length n4)).heap[w.heap.size]? = some (.cells #[.int .i64 sp.ep, .int .i64 sp.a.e, .int .i64 sp.a.b, .int .i64 sp.a.k, .slice e1 sp.a.M.length n1, .slice e2 sp.a.C.length n2, .int .i64 sp.n.e, .int .i64 sp.n.b, .int .i64 sp.n.k, .slice e3 sp.n.M.length n3, .slice e4 sp.n.C.length n4, .int .i64 S.s0, .int .i64 S.s1] 42) := heap_set_self g10 10 _
      have g12 : ((((((((((((w6.setCell ⟨w.heap.size, 0, none⟩ (.int .i64 sp.ep)).setCell ⟨w.heap.size, 1, none⟩ (.int .i64 sp.a.e)).setCell ⟨w.heap.size, 2, none⟩ (.int .i64 sp.a.b)).setCell ⟨w.heap.size, 3, none⟩ (.int .i64 sp.a.k)).setCell ⟨w.heap.size, 4, none⟩ (.slice e1 sp.a.M.length n1)).setCell ⟨w.heap.size, 5, none⟩ (.slice e2 sp.a.C.length n2)).setCell ⟨w.heap.size, 6, none⟩ (.int .i64 sp.n.e)).setCell ⟨w.heap.size, 7, none⟩ (.int .i64 sp.n.b)).setCell ⟨w.heap.size, 8, none⟩ (.int .i64 sp.n.k)).setCell ⟨w.heap.size, 9, none⟩ (.slice e3 sp.n.M.length n3)).setCell ⟨w.heap.size, 10, none⟩ (.slice e4 sp.n.C.length n4)).setCell ⟨w.heap.size, 11, none⟩ (.int .i64 sp.s0)).heap[w.heap.size]? = some (.cells #[.int .i64 sp.ep, .int .i64 sp.a.e, .int .i64 sp.a.b, .int .i64 sp.a.k, .slice e1 sp.a.M.length n1, .slice e2 sp.a.C.length n2, .int .i64 sp.n.e, .int .i64 sp.n.b, .int .i64 sp.n.k, .slice e3 sp.n.M.length n3, .slice e4 sp.n.C.length n4, .int .i64 sp.s0, .int .i64 S.s1] 42) := heap_set_self g11 11 _
      have g13 : (((((((((((((w6.setCell ⟨w.heap.size, 0, none⟩ (.int .i64 sp.ep)).setCell ⟨w.heap.size, 1, none⟩ (.int .i64 sp.a.e)).setCell ⟨w.heap.size, 2, none⟩ (.int .i64 sp.a.b)).setCell ⟨w.heap.size, 3, none⟩ (.int .i64 sp.a.k)).setCell ⟨w.heap.size, 4, none⟩ (.slice e1 sp.a.M.length n1)).setCell ⟨w.heap.size, 5, none⟩ (.slice e2 sp.a.C.length n2)).setCell ⟨w.heap.size, 6, none⟩ (.int .i64 sp.n.e)).setCell ⟨w.heap.size, 7, none⟩ (.int .i64 sp.n.b)).setCell ⟨w.heap.size, 8, none⟩ (.int .i64 sp.n.k)).setCell ⟨w.heap.size, 9, none⟩ (.slice e3 sp.n.M.length n3)).setCell ⟨w.heap.size, 10, none⟩ (.slice e4 sp.n.C.length n4)).setCell ⟨w.heap.size, 11, none⟩ (.int .i64 sp.s0)).setCell ⟨w.heap.size, 12, none⟩ (.int .i64 sp.s1)).heap[w.heap.size]? = some (.cells #[.int .i64 sp.ep, .int .i64 sp.a.e, .int .i64 sp.a.b, .int .i64 sp.a.k, .slice e1 sp.a.M.length n1, .slice e2 sp.a.C.length n2, .int .i64 sp.n.e, .int .i64 sp.n.b, .int .i64 sp.n.k, .slice e3 sp.n.M.length n3, .slice e4 sp.n.C.length n4, .int .i64 sp.s0, .int .i64 sp.s1] 42) := heap_set_self g12 12 _
      have gI := Lib.hid g13
      have gO := Lib.hid (show Only (w.heap.size) w6 (((((((((((((w6.setCell ⟨w.heap.size, 0, none⟩ (.int .i64 sp.ep)).setCell ⟨w.heap.size, 1, none⟩ (.int .i64 sp.a.e)).setCell ⟨w.heap.size, 2, none⟩ (.int .i64 sp.a.b)).setCell ⟨w.heap.size, 3, none⟩ (.int .i64 sp.a.k)).setCell ⟨w.heap.size, 4, none⟩ (.slice e1 sp.a.M.length n1)).setCell ⟨w.heap.size, 5, none⟩ (.slice e2 sp.a.C.length n2)).setCell ⟨w.heap.size, 6, none⟩ (.int .i64 sp.n.e)).setCell ⟨w.heap.size, 7, none⟩ (.int .i64 sp.n.b)).setCell ⟨w.heap.size, 8, none⟩ (.int .i64 sp.n.k)).setCell ⟨w.heap.size, 9, none⟩ (.slice e3 sp.n.M.length n3)).setCell ⟨w.heap.size, 10, none⟩ (.slice e4 sp.n.C.length n4)).setCell ⟨w.heap.size, 11, none⟩ (.int .i64 sp.s0)).setCell ⟨w.heap.size, 12, none⟩ (.int .i64 sp.s1)) from ((((((((((((((Only.refl _ _).set 0 _).set 1 _).set 2 _).set 3 _).set 4 _).set 5 _).set 6 _).set 7 _).set 8 _).set 9 _).set 10 _).set 11 _).set 12 _))
      clear g1 g2 g3 g4 g5 g6 g7 g8 g9 g10 g11 g12 g13
      have HY := Lib.hid (And.intro qR (And.intro qb (And.intro qz (And.intro hS (And.intro hrj (And.intro hsp (And.intro r1 (And.intro r2 (And.intro h3 (h4))))))))))
      clear kN kR kb kz hS hrj hsp qN qR qb qz r1 r2 h3 h4 hb6
      go_wp2_with fail
      go_roundw
      case rel => exact ⟨j + 1, by omega, by go_num, allrel_next rs w w6 _ j S r sp e1 e2 e3 e4 n1 n2 n3 n4 HY.out gI.out gO.out⟩
      case measure => simp [intOf]; omega
    · have hjl' : ¬ ((j : Int) < (rs.length : Int)) := by omega
      obtain rfl : j = rs.length := by omega
      have d0 := cell_atD hN 0 (v := .int .i64 S.ep) rfl
      have d1 := cell_atD hN 1 (v := .int .i64 S.a.e) rfl
      have d2 := cell_atD hN 2 (v := .int .i64 S.a.b) rfl
      have d3 := cell_atD hN 3 (v := .int .i64 S.a.k) rfl
      have d4 := cell_atD hN 4 (v := .slice b1 S.a.M.length p1) rfl
      have d5 := cell_atD hN 5 (v := .slice b2 S.a.C.length p2) rfl
      have d6 := cell_atD hN 6 (v := .int .i64 S.n.e) rfl
      have d7 := cell_atD hN 7 (v := .int .i64 S.n.b) rfl
      have d8 := cell_atD hN 8 (v := .int .i64 S.n.k) rfl
      have d9 := cell_atD hN 9 (v := .slice b3 S.n.M.length p3) rfl
      have d10 := cell_atD hN 10 (v := .slice b4 S.n.C.length p4) rfl
      have d11 := cell_atD hN 11 (v := .int .i64 S.s0) rfl
      have d12 := cell_atD hN 12 (v := .int .i64 S.s1) rfl
      have e0 := cell_atD hR 0 (v := .int .i64 0) rfl
      have e1 := cell_atD hR 1 (v := .int .i64 0) rfl
      have e2 := cell_atD hR 2 (v := .int .i64 0) rfl
      have e3 := cell_atD hR 3 (v := .int .i64 0) rfl
      have e4 := cell_atD hR 4 (v := .slice none 0 0) rfl
      have e5 := cell_atD hR 5 (v := .slice none 0 0) rfl
      have e6 := cell_atD hR 6 (v := .int .i64 0) rfl
      have e7 := cell_atD hR 7 (v := .int .i64 0) rfl
      have e8 := cell_atD hR 8 (v := .int .i64 0) rfl
      have e9 := cell_atD hR 9 (v := .slice none 0 0) rfl
      have e10 := cell_atD hR 10 (v := .slice none 0 0) rfl
      have e11 := cell_atD hR 11 (v := .int .i64 0) rfl
      have e12 := cell_atD hR 12 (v := .int .i64 0) rfl
      have fz : ∀ j, wr.frozen? ⟨w.heap.size + 1, j, none⟩ = false := fun j => by simp [World.frozen?, hR]
      have g1 : (wr.setCell ⟨w.heap.size + 1, 0, none⟩ (.int .i64 S.ep)).heap[w.heap.size + 1]? = some (.cells #[.int .i64 S.ep, .int .i64 0, .int .i64 0, .int .i64 0, .slice none 0 0, .slice none 0 0, .int .i64 0, .int .i64 0, .int .i64 0, .slice none 0 0, .slice none 0 0, .int .i64 0, .int .i64 0] 42) := heap_set_self hR 0 _
      have g2 : ((wr.setCell ⟨w.heap.size + 1, 0, none⟩ (.int .i64 S.ep)).setCell ⟨w.heap.size + 1, 1, none⟩ (.int .i64 S.a.e)).heap[w.heap.size + 1]? = some (.cells #[.int .i64 S.ep, .int .i64 S.a.e, .int .i64 0, .int .i64 0, .slice none 0 0, .slice none 0 0, .int .i64 0, .int .i64 0, .int .i64 0, .slice none 0 0, .slice none 0 0, .int .i64 0, .int .i64 0] 42) := heap_set_self g1 1 _
      have g3 : (((wr.setCell ⟨w.heap.size + 1, 0, none⟩ (.int .i64 S.ep)).setCell ⟨w.heap.size + 1, 1, none⟩ (.int .i64 S.a.e)).setCell ⟨w.heap.size + 1, 2, none⟩ (.int .i64 S.a.b)).heap[w.heap.size + 1]? = some (.cells #[.int .i64 S.ep, .int .i64 S.a.e, .int .i64 S.a.b, .int .i64 0, .slice none 0 0, .slice none 0 0, .int .i64 0, .int .i64 0, .int .i64 0, .slice none 0 0, .slice none 0 0, .int .i64 0, .int .i64 0] 42) := heap_set_self g2 2 _
      have g4 : ((((wr.setCell ⟨w.heap.size + 1, 0, none⟩ (.int .i64 S.ep)).setCell ⟨w.heap.size + 1, 1, none⟩ (.int .i64 S.a.e)).setCell ⟨w.heap.size + 1, 2, none⟩ (.int .i64 S.a.b)).setCell ⟨w.heap.size + 1, 3, none⟩ (.int .i64 S.a.k)).heap[w.heap.size + 1]? = some (.cells #[.int .i64 S.ep, .int .i64 S.a.e, .int .i64 S.a.b, .int .i64 S.a.k, .slice none 0 0, .slice none 0 0, .int .i64 0, .int .i64 0, .int .i64 0, .slice none 0 0, .slice none 0 0, .int .i64 0, .int .i64 0] 42) := heap_set_self g3 3 _
      have g5 : (((((wr.setCell ⟨w.heap.size + 1, 0, none⟩ (.int .i64 S.ep)).setCell ⟨w.heap.size + 1, 1, none⟩ (.int .i64 S.a.e)).setCell ⟨w.heap.size + 1, 2, none⟩ (.int .i64 S.a.b)).setCell ⟨w.heap.size + 1, 3, none⟩ (.int .i64 S.a.k)).setCell ⟨w.heap.size + 1, 4, none⟩ (.slice b1 S.a.M.length p1)).heap[w.heap.size + 1]? = some (.cells #[.int .i64 S.ep, .int .i64 S.a.e, .int .i64 S.a.b, .int .i64 S.a.k, .slice b1 S.a.M.length p1, .slice none 0 0, .int .i64 0, .int .i64 0, .int .i64 0, .slice none 0 0, .slice none 0 0, .int .i64 0, .int .i64 0] 42) := heap_set_self g4 4 _
      have g6 : ((((((wr.setCell ⟨w.heap.size + 1, 0, none⟩ (.int .i64 S.ep)).setCell ⟨w.heap.size + 1, 1, none⟩ (.int .i64 S.a.e)).setCell ⟨w.heap.size + 1, 2, none⟩ (.int .i64 S.a.b)).setCell ⟨w.heap.size + 1, 3, none⟩ (.int .i64 S.a.k)).setCell ⟨w.heap.size + 1, 4, none⟩ (.slice b1 S.a.M.length p1)).setCell ⟨w.heap.size + 1, 5, none⟩ (.slice b2 S.a.C.length p2)).heap[w.heap.size + 1]? = some (.cells #[.int .i64 S.ep, .int .i64 S.a.e, .int .i64 S.a.b, .int .i64 S.a.k, .slice b1 S.a.M.length p1, .slice b2 S.a.C.length p2, .int .i64 0, .int .i64 0, .int .i64 0, .slice none 0 0, .slice none 0 0, .int .i64 0, .int .i64 0] 42) := heap_set_self g5 5 _
      have g7 : (((((((wr.setCell ⟨w.heap.size + 1, 0, none⟩ (.int .i64 S.ep)).setCell ⟨w.heap.size + 1, 1, none⟩ (.int .i64 S.a.e)).setCell ⟨w.heap.size + 1, 2, none⟩ (.int .i64 S.a.b)).setCell ⟨w.heap.size + 1, 3, none⟩ (.int .i64 S.a.k)).setCell ⟨w.heap.size + 1, 4, none⟩ (.slice b1 S.a.M.length p1)).setCell ⟨w.heap.size + 1, 5, none⟩ (.slice b2 S.a.C.length p2)).setCell ⟨w.heap.size + 1, 6, none⟩ (.int .i64 S.n.e)).heap[w.heap.size + 1]? = some (.cells #[.int .i64 S.ep, .int .i64 S.a.e, .int .i64 S.a.b, .int .i64 S.a.k, .slice b1 S.a.M.length p1, .slice b2 S.a.C.length p2, .int .i64 S.n.e, .int .i64 0, .int .i64 0, .slice none 0 0, .slice none 0 0, .int .i64 0, .int .i64 0] 42) := heap_set_self g6 6 _
      have g8 : ((((((((wr.setCell ⟨w.heap.size + 1, 0, none⟩ (.int .i64 S.ep)).setCell ⟨w.heap.size + 1, 1, none⟩ (.int .i64 S.a.e)).setCell ⟨w.heap.size + 1, 2, none⟩ (.int .i64 S.a.b)).setCell ⟨w.heap.size + 1, 3, none⟩ (.int .i64 S.a.k)).setCell ⟨w.heap.size + 1, 4, none⟩ (.slice b1 S.a.M.length p1)).setCell ⟨w.heap.size + 1, 5, none⟩ (.slice b2 S.a.C.length p2)).setCell ⟨w.heap.size + 1, 6, none⟩ (.int .i64 S.n.e)).setCell ⟨w.heap.size + 1, 7, none⟩ (.int .i64 S.n.b)).heap[w.heap.size + 1]? = some (.cells #[.int .i64 S.ep, .int .i64 S.a.e, .int .i64 S.a.b, .int .i64 S.a.k, .slice b1 S.a.M.length p1, .slice b2 S.a.C.length p2, .int .i64 S.n.e, .int .i64 S.n.b, .int .i64 0, .slice none 0 0, .slice none 0 0, .int .i64 0, .int .i64 0] 42) := heap_set_self g7 7 _
      have g9 : (((((((((wr.setCell ⟨w.heap.size + 1, 0, none⟩ (.int .i64 S.ep)).setCell ⟨w.heap.size + 1, 1, none⟩ (.int .i64 S.a.e)).setCell ⟨w.heap.size + 1, 2, none⟩ (.int .i64 S.a.b)).setCell ⟨w.heap.size + 1, 3, none⟩ (.int .i64 S.a.k)).setCell ⟨w.heap.size + 1, 4, none⟩ (.slice b1 S.a.M.length p1)).setCell ⟨w.heap.size + 1, 5, none⟩ (.slice b2 S.a.C.length p2)).setCell ⟨w.heap.size + 1, 6, none⟩ (.int .i64 S.n.e)).setCell ⟨w.heap.size + 1, 7, none⟩ (.int .i64 S.n.b)).setCell ⟨w.heap.size + 1, 8, none⟩ (.int .i64 S.n.k)).heap[w.heap.size + 1]? = some (.cells #[.int .i64 S.ep, .int .i64 S.a.e, .int .i64 S.a.b, .int .i64 S.a.k, .slice b1 S.a.M.length p1, .slice b2 S.a.C.length p2, .int .i64 S.n.e, .int .i64 S.n.b, .int .i64 S.n.k, .slice none 0 0, .slice none 0 0, .int .i64 0, .int .i64 0] 42) := heap_set_self g8 8 _
      have g10 : ((((((((((wr.setCell ⟨w.heap.size + 1, 0, none⟩ (.int .i64 S.ep)).setCell ⟨w.heap.size + 1, 1, none⟩ (.int .i64 S.a.e)).setCell ⟨w.heap.size + 1, 2, none⟩ (.int .i64 S.a.b)).setCell ⟨w.heap.size + 1, 3, none⟩ (.int .i64 S.a.k)).setCell ⟨w.heap.size + 1, 4, none⟩ (.slice b1 S.a.M.length p1)).setCell ⟨w.heap.size + 1, 5, none⟩ (.slice b2 S.a.C.length p2)).setCell ⟨w.heap.size + 1, 6, none⟩ (.int .i64 S.n.e)).setCell ⟨w.heap.size + 1, 7, none⟩ (.int .i64 S.n.b)).setCell ⟨w.heap.size + 1, 8, none⟩ (.int .i64 S.n.k)).setCell ⟨w.heap.size + 1, 9, none⟩ (.slice b3 S.n.M.length p3)).heap[w.heap.size + 1]? = some (.cells #[.int .i64 S.ep, .int .i64 S.a.e, .int .i64 S.a.b, .int .i64 S.a.k, .slice b1 S.a.M.length p1, .slice b2 S.a.C.length p2, .int .i64 S.n.e, .int .i64 S.n.b, .int .i64 S.n.k, .slice b3 S.n.M.length p3, .slice none 0 0, .int .i64 0, .int .i64 0] 42) := heap_set_self g9 9 _
      have g11 : (((((((((((wr.setCell ⟨w.heap.size + 1, 0, none⟩ (.int .i64 S.ep)).setCell ⟨w.heap.size + 1, 1, none⟩ (.int .i64 S.a.e)).setCell ⟨w.heap.size + 1, 2, none⟩ (.int .i64 S.a.b)).setCell ⟨w.heap.size + 1, 3, none⟩ (.int .i64 S.a.k)).setCell ⟨w.heap.size + 1, 4, none⟩ (.slice b1 S.a.M.length p1)).setCell ⟨w.heap.size + 1, 5, none⟩ (.slice b2 S.a.C.length p2)).setCell ⟨w.heap.size + 1, 6, none⟩ (.int .i64 S.n.e)).setCell ⟨w.heap.size + 1, 7, none⟩ (.int .i64 S.n.b)).setCell ⟨w.heap.size + 1, 8, none⟩ (.int .i64 S.n.k)).setCell ⟨w.heap.size + 1, 9, none⟩ (.slice b3 S.n.M.length p3)).setCell ⟨w.heap.size + 1, 10, none⟩ (.slice b4 S.n.C.length p4)).heap[w.heap.size + 1]? = some (.cells #[.int .i64 S.ep, .int .i64 S.a.e, .int .i64 S.a.b, .int .i64 S.a.k, .slice b1 S.a.M.length p1, .slice b2 S.a.C.length p2, .int .i64 S.n.e, .int .i64 S.n.b, .int .i64 S.n.k, .slice b3 S.n.M.length p3, .slice b4 S.n.C.length p4, .int .i64 0, .int .i64 0] 42) := heap_set_self g10 10 _
      have g12 : ((((((((((((wr.setCell ⟨w.heap.size + 1, 0, none⟩ (.int .i64 S.ep)).setCell ⟨w.heap.size + 1, 1, none⟩ (.int .i64 S.a.e)).setCell ⟨w.heap.size + 1, 2, none⟩ (.int .i64 S.a.b)).setCell ⟨w.heap.size + 1, 3, none⟩ (.int .i64 S.a.k)).setCell ⟨w.heap.size + 1, 4, none⟩ (.slice b1 S.a.M.length p1)).setCell ⟨w.heap.size + 1, 5, none⟩ (.slice b2 S.a.C.length p2)).setCell ⟨w.heap.size + 1, 6, none⟩ (.int .i64 S.n.e)).setCell ⟨w.heap.size + 1, 7, none⟩ (.int .i64 S.n.b)).setCell ⟨w.heap.size + 1, 8, none⟩ (.int .i64 S.n.k)).setCell ⟨w.heap.size + 1, 9, none⟩ (.slice b3 S.n.M.length p3)).setCell ⟨w.heap.size + 1, 10, none⟩ (.slice b4 S.n.C.length p4)).setCell ⟨w.heap.size + 1, 11, none⟩ (.int .i64 S.s0)).heap[w.heap.size + 1]? = some (.cells #[.int .i64 S.ep, .int .i64 S.a.e, .int .i64 S.a.b, .int .i64 S.a.k, .slice b1 S.a.M.length p1, .slice b2 S.a.C.length p2, .int .i64 S.n.e, .int .i64 S.n.b, .int .i64 S.n.k, .slice b3 S.n.M.length p3, .slice b4 S.n.C.length p4, .int .i64 S.s0, .int .i64 0] 42) := heap_set_self g11 11 _
      have g13 : (((((((((((((wr.setCell ⟨w.heap.size + 1, 0, none⟩ (.int .i64 S.ep)).setCell ⟨w.heap.size + 1, 1, none⟩ (.int .i64 S.a.e)).setCell ⟨w.heap.size + 1, 2, none⟩ (.int .i64 S.a.b)).setCell ⟨w.heap.size + 1, 3, none⟩ (.int .i64 S.a.k)).setCell ⟨w.heap.size + 1, 4, none⟩ (.slice b1 S.a.M.length p1)).setCell ⟨w.heap.size + 1, 5, none⟩ (.slice b2 S.a.C.length p2)).setCell ⟨w.heap.size + 1, 6, none⟩ (.int .i64 S.n.e)).setCell ⟨w.heap.size + 1, 7, none⟩ (.int .i64 S.n.b)).setCell ⟨w.heap.size + 1, 8, none⟩ (.int .i64 S.n.k)).setCell ⟨w.heap.size + 1, 9, none⟩ (.slice b3 S.n.M.length p3)).setCell ⟨w.heap.size + 1, 10, none⟩ (.slice b4 S.n.C.length p4)).setCell ⟨w.heap.size + 1, 11, none⟩ (.int .i64 S.s0)).setCell ⟨w.heap.size + 1, 12, none⟩ (.int .i64 S.s1)).heap[w.heap.size + 1]? = some (.cells #[.int .i64 S.ep, .int .i64 S.a.e, .int .i64 S.a.b, .int .i64 S.a.k, .slice b1 S.a.M.length p1, .slice b2 S.a.C.length p2, .int .i64 S.n.e, .int .i64 S.n.b, .int .i64 S.n.k, .slice b3 S.n.M.length p3, .slice b4 S.n.C.length p4, .int .i64 S.s0, .int .i64 S.s1] 42) := heap_set_self g12 12 _
      have gI := Lib.hid g13
      have gO := Lib.hid (show Only (w.heap.size + 1) wr (((((((((((((wr.setCell ⟨w.heap.size + 1, 0, none⟩ (.int .i64 S.ep)).setCell ⟨w.heap.size + 1, 1, none⟩ (.int .i64 S.a.e)).setCell ⟨w.heap.size + 1, 2, none⟩ (.int .i64 S.a.b)).setCell ⟨w.heap.size + 1, 3, none⟩ (.int .i64 S.a.k)).setCell ⟨w.heap.size + 1, 4, none⟩ (.slice b1 S.a.M.length p1)).setCell ⟨w.heap.size + 1, 5, none⟩ (.slice b2 S.a.C.length p2)).setCell ⟨w.heap.size + 1, 6, none⟩ (.int .i64 S.n.e)).setCell ⟨w.heap.size + 1, 7, none⟩ (.int .i64 S.n.b)).setCell ⟨w.heap.size + 1, 8, none⟩ (.int .i64 S.n.k)).setCell ⟨w.heap.size + 1, 9, none⟩ (.slice b3 S.n.M.length p3)).setCell ⟨w.heap.size + 1, 10, none⟩ (.slice b4 S.n.C.length p4)).setCell ⟨w.heap.size + 1, 11, none⟩ (.int .i64 S.s0)).setCell ⟨w.heap.size + 1, 12, none⟩ (.int .i64 S.s1)) from ((((((((((((((Only.refl _ _).set 0 _).set 1 _).set 2 _).set 3 _).set 4 _).set 5 _).set 6 _).set 7 _).set 8 _).set 9 _).set 10 _).set 11 _).set 12 _))
      clear g1 g2 g3 g4 g5 g6 g7 g8 g9 g10 g11 g12 g13
      have HY := Lib.hid (And.intro hS (And.intro r1 (And.intro r2 (And.intro h3 (And.intro h4 (And.intro hb (hz)))))))
      clear hS r1 r2 h3 h4 h0 hb hz hN hR HL
      go_wp2_with fail
      generalize (((((((((((((wr.setCell ⟨w.heap.size + 1, 0, none⟩ (.int .i64 S.ep)).setCell ⟨w.heap.size + 1, 1, none⟩ (.int .i64 S.a.e)).setCell ⟨w.heap.size + 1, 2, none⟩ (.int .i64 S.a.b)).setCell ⟨w.heap.size + 1, 3, none⟩ (.int .i64 S.a.k)).setCell ⟨w.heap.size + 1, 4, none⟩ (.slice b1 S.a.M.length p1)).setCell ⟨w.heap.size + 1, 5, none⟩ (.slice b2 S.a.C.length p2)).setCell ⟨w.heap.size + 1, 6, none⟩ (.int .i64 S.n.e)).setCell ⟨w.heap.size + 1, 7, none⟩ (.int .i64 S.n.b)).setCell ⟨w.heap.size + 1, 8, none⟩ (.int .i64 S.n.k)).setCell ⟨w.heap.size + 1, 9, none⟩ (.slice b3 S.n.M.length p3)).setCell ⟨w.heap.size + 1, 10, none⟩ (.slice b4 S.n.C.length p4)).setCell ⟨w.heap.size + 1, 11, none⟩ (.int .i64 S.s0)).setCell ⟨w.heap.size + 1, 12, none⟩ (.int .i64 S.s1)) = wf at *
      have fi := gI.out
      have t0 := cell_atD fi 0 (v := .int .i64 S.ep) rfl
      have t1 := cell_atD fi 1 (v := .int .i64 S.a.e) rfl
      have t2 := cell_atD fi 2 (v := .int .i64 S.a.b) rfl
      have t3 := cell_atD fi 3 (v := .int .i64 S.a.k) rfl
      have t4 := cell_atD fi 4 (v := .slice b1 S.a.M.length p1) rfl
      have t5 := cell_atD fi 5 (v := .slice b2 S.a.C.length p2) rfl
      have t6 := cell_atD fi 6 (v := .int .i64 S.n.e) rfl
      have t7 := cell_atD fi 7 (v := .int .i64 S.n.b) rfl
      have t8 := cell_atD fi 8 (v := .int .i64 S.n.k) rfl
      have t9 := cell_atD fi 9 (v := .slice b3 S.n.M.length p3) rfl
      have t10 := cell_atD fi 10 (v := .slice b4 S.n.C.length p4) rfl
      have t11 := cell_atD fi 11 (v := .int .i64 S.s0) rfl
      have t12 := cell_atD fi 12 (v := .int .i64 S.s1) rfl
      clear fi
      refine bodyPost_ret (v := .agg #[.int .i64 S.ep, .int .i64 S.a.e, .int .i64 S.a.b, .int .i64 S.a.k, .slice b1 S.a.M.length p1, .slice b2 S.a.C.length p2, .int .i64 S.n.e, .int .i64 S.n.b, .int .i64 S.n.k, .slice b3 S.n.M.length p3, .slice b4 S.n.C.length p4, .int .i64 S.s0, .int .i64 S.s1]) (by simp [results, Try.results62, go_sem, t0, t1, t2, t3, t4, t5, t6, t7, t8, t9, t10, t11, t12]) rfl ?_
      obtain ⟨hS, r1, r2, h3, h4, hb, hz⟩ := HY.out
      rw [← hS]
      exact ⟨_, rfl, ⟨_, _, _, _, rfl, r1.only gO.out (by omega), r2.only gO.out (by omega), h3, h4⟩, hb.trans (gO.out.below (B := w.heap.size) (by omega) hb.size)⟩
end Go.Proofs.Ytjaaddjbmimjoaa
