/-
  The law of what is decided once: walked.
-/
import Derived.Test.YtfgmeeponipjeaaDecM
import Derived.Test.YtfgmeeponipjeaaDecK
import Derived.Test.YtfgmeeponipjeaaDecJ
namespace Go.Proofs.Ytfgmeeponipjeaa
open Go.RowKit
set_option linter.unusedVariables false
set_option linter.unusedSimpArgs false

def confShD : Sh := .two (.int .i64) (.two (.int .i64) (.two (.int .i64) (.two (.slice (.int .i64)) (.two (.slice (.int .i64)) .unit))))
def cmdShD : Sh := .two (.int .i64) (.two confShD .unit)
theorem fits_ints {w : World} {a : Option Addr} {len cap : Nat} (h : Fits w (.slice (.int .i64)) [.slice a len cap]) : ∃ l : List Int, l.length = len ∧ SR w (.slice a len cap) 1 l.length (nCells l) := by
  obtain ⟨h1, h2, h3⟩ := h.slice
  rcases h3 with h0 | ⟨b, off, rfl, hb, he⟩
  · subst h0
    exact ⟨[], rfl, a, cap, rfl, h1, h2, rfl, .inl rfl⟩
  · refine ⟨(List.range len).map fun i => match w.cell? ⟨b, off + i, none⟩ with | some (.int _ z) => z | _ => 0, by simp, ?_⟩
    refine ⟨_, cap, by simp, by simpa using h1, h2, by simp [nCells], .inr ⟨b, off, rfl, hb, fun j u hj => ?_⟩⟩
    have hjl : j < len := by
      have := (List.getElem?_eq_some_iff.1 hj).1
      simpa [nCells] using this
    obtain ⟨ys, hl, hc, z, rfl, -⟩ := he j hjl
    have hcell : w.cell? ⟨b, off + j, none⟩ = some (.int .i64 z) := by simpa [Sh.size] using hc 0 _ rfl
    rw [hcell, ← hj]
    simp [nCells, hjl, hcell]
theorem fits_rc {w : World} {ys : List Value} (h : Fits w cmdShD ys) : ∃ r : RC, ys = r.cells ∧ r.at_ w := by
  obtain ⟨x, y, rfl, ⟨z, rfl, -⟩, x1, y1, rfl, h1, rfl⟩ := h
  obtain ⟨_, _, rfl, ⟨e, rfl, -⟩, _, _, rfl, ⟨b, rfl, -⟩, _, _, rfl, ⟨k, rfl, -⟩, x3, _, rfl, h3, x4, _, rfl, h4, rfl⟩ := h1
  obtain ⟨ma, ml, mc, rfl, -⟩ := id h3
  obtain ⟨ca, cl, cc, rfl, -⟩ := id h4
  obtain ⟨M, rfl, hM⟩ := fits_ints h3
  obtain ⟨C, rfl, hC⟩ := fits_ints h4
  exact ⟨⟨z, ⟨e, b, k, M, C⟩, ma, mc, ca, cc⟩, rfl, hM, hC⟩
def LawRel (w : World) (r0 : RC) (wr : World) : Prop :=
  ∃ (S : DS), ∃ b1 p1 b2 p2 b3 p3 b4 p4, wr.heap[w.heap.size]? = some (.cells #[.int .i64 r0.x, .int .i64 r0.c.e, .int .i64 r0.c.b, .int .i64 r0.c.k, .slice r0.a5 r0.c.M.length r0.q5, .slice r0.a6 r0.c.C.length r0.q6] 27) ∧ wr.heap[w.heap.size + 1]? = some (.cells #[.int .i64 S.ep, .int .i64 S.a.e, .int .i64 S.a.b, .int .i64 S.a.k, .slice b1 S.a.M.length p1, .slice b2 S.a.C.length p2, .int .i64 S.n.e, .int .i64 S.n.b, .int .i64 S.n.k, .slice b3 S.n.M.length p3, .slice b4 S.n.C.length p4, .int .i64 S.s0, .int .i64 S.s1] 30) ∧ CFO S.a (w.heap.size + 2) wr (.slice b1 S.a.M.length p1) (.slice b2 S.a.C.length p2) ∧ CFO S.n (w.heap.size + 2) wr (.slice b3 S.n.M.length p3) (.slice b4 S.n.C.length p4) ∧ InvS S ∧ Below w.heap.size w wr ∧ w.heap.size + 2 ≤ wr.heap.size
theorem lawrel_start (w : World) (r0 : RC) : LawRel w r0 ((w.alloc (.cells #[.int .i64 r0.x, .int .i64 r0.c.e, .int .i64 r0.c.b, .int .i64 r0.c.k, .slice r0.a5 r0.c.M.length r0.q5, .slice r0.a6 r0.c.C.length r0.q6] 27)).alloc (.cells #[.int .i64 0, .int .i64 0, .int .i64 0, .int .i64 0, .slice none 0 0, .slice none 0 0, .int .i64 0, .int .i64 0, .int .i64 0, .slice none 0 0, .slice none 0 0, .int .i64 0, .int .i64 0] 30)) := by
  obtain ⟨h1, h2⟩ := two_blocks w (.cells #[.int .i64 r0.x, .int .i64 r0.c.e, .int .i64 r0.c.b, .int .i64 r0.c.k, .slice r0.a5 r0.c.M.length r0.q5, .slice r0.a6 r0.c.C.length r0.q6] 27) (.cells #[.int .i64 0, .int .i64 0, .int .i64 0, .int .i64 0, .slice none 0 0, .slice none 0 0, .int .i64 0, .int .i64 0, .int .i64 0, .slice none 0 0, .slice none 0 0, .int .i64 0, .int .i64 0] 30)
  exact ⟨DS.z, none, 0, none, 0, none, 0, none, 0, h1, h2, ⟨World.ownsRow_nil _ _ _ _, World.ownsRow_nil _ _ _ _⟩, ⟨World.ownsRow_nil _ _ _ _, World.ownsRow_nil _ _ _ _⟩, inv_z, ((Below.refl _ _).alloc (Nat.le_refl _) _).alloc (by simp) _, by simp⟩
theorem do_cases (s : DS) (c : CF) : doS s 1 c = s ∨ (doS s 1 c).ep = s.ep + 1 ∧ (doS s 1 c).n.e = s.ep + 1 ∧ s.ep < 1048576 := by
  unfold doS
  split
  · rw [if_pos rfl]
    unfold prepS
    split <;> split
    · exact .inl rfl
    · rename_i h; exact .inr ⟨rfl, rfl, by omega⟩
    · exact .inl rfl
    · rename_i h; exact .inr ⟨rfl, rfl, by omega⟩
  · exact .inl rfl
theorem do_again (s : DS) (c : CF) : doS (doS s 1 c) 1 c = doS s 1 c := by
  by_cases hm : mayK 1 c = true
  · rw [do_one _ _ hm, do_one _ _ hm]
    obtain ⟨e, b, k, M, C⟩ := c
    rcases (may_wish hm).1 with h | h <;> simp only at h <;> subst h
    · by_cases h1 : k ≤ s.s0 ∨ 1048576 ≤ s.ep
      · rw [prep5_same s e k M C h1, prep5_same s e k M C h1]
      · rw [prep5_new s e k M C (by omega) (by omega), prep5_same _ e k M C (.inl (by simp))]
    · by_cases h1 : k ≤ s.s1 ∨ 1048576 ≤ s.ep
      · rw [prep6_same s e k M C h1, prep6_same s e k M C h1]
      · rw [prep6_new s e k M C (by omega) (by omega), prep6_same _ e k M C (.inl (by simp))]
  · have hm' : mayK 1 c = false := by simpa using hm
    rw [do_not _ 1 c hm', do_not _ 1 c hm']
/-- an activate of an epoch that is not the one made ready changes nothing -/
theorem do_elder (s : DS) (e : Int) (h : s.n.e ≠ e) : doS s 2 ⟨e, 0, 0, [], []⟩ = s := by
  by_cases hm : mayK 2 ⟨e, 0, 0, [], []⟩ = true
  · exact do_two_not _ _ hm h
  · exact do_not _ _ _ (by simpa using hm)
theorem do_newest (s : DS) (e : Int) (h : s.n.e = e) (h1 : 1 ≤ e) (h2 : e ≤ 1048576) : doS s 2 ⟨e, 0, 0, [], []⟩ = ⟨s.ep, s.s0, s.s1, s.n, s.n⟩ := do_two _ _ (by simp [mayK, sameC, h1, h2]) h
theorem lawrel_next (w : World) (r0 : RC) (wr wz w7 : World) (K : Nat) (hK : w.heap.size + 1 = K) (T : DS) (e1 e2 e3 e4 : Option Addr) (n1 n2 n3 n4 : Nat) (hT : InvS T) (t1 : CFO T.a (w.heap.size + 2) wz (.slice e1 T.a.M.length n1) (.slice e2 T.a.C.length n2)) (t2 : CFO T.n (w.heap.size + 2) wz (.slice e3 T.n.M.length n3) (.slice e4 T.n.C.length n4))
    (hg : w7.heap[K]? = some (.cells #[.int .i64 T.ep, .int .i64 T.a.e, .int .i64 T.a.b, .int .i64 T.a.k, .slice e1 T.a.M.length n1, .slice e2 T.a.C.length n2, .int .i64 T.n.e, .int .i64 T.n.b, .int .i64 T.n.k, .slice e3 T.n.M.length n3, .slice e4 T.n.C.length n4, .int .i64 T.s0, .int .i64 T.s1] 30)) (ho : Only K wz w7) (hbk : Below K wr w7) (hN : wr.heap[w.heap.size]? = some (.cells #[.int .i64 r0.x, .int .i64 r0.c.e, .int .i64 r0.c.b, .int .i64 r0.c.k, .slice r0.a5 r0.c.M.length r0.q5, .slice r0.a6 r0.c.C.length r0.q6] 27)) (hb : Below w.heap.size w wr) : LawRel w r0 w7 := by
  subst hK
  have hl := lt_heap hg
  exact ⟨T, e1, n1, e2, n2, e3, n3, e4, n4, (hbk.block _ (by omega)).trans hN, hg, t1.only ho (by omega), t2.only ho (by omega), hT, hb.trans (hbk.mono (by omega)), by omega⟩
theorem below_undrewK {K : Nat} {w w' : World} (h : Below K w.drew w') : Below K w w' := ⟨h.os, h.tape, h.output, h.size, h.block⟩
theorem below_undrew {w w' : World} (h : Below w.drew.heap.size w.drew w') : Below w.heap.size w w' := ⟨h.os, h.tape, h.output, h.size, h.block⟩
theorem keepsU_one {N : Nat} {w w' : World} {X : Prop} (h1 : N ≤ w'.heap.size ∧ Below N w w' ∧ X) : N ≤ w'.heap.size := h1.1
theorem keeps_set13 {N : Nat} {w w' : World} {X : Prop} {b : Nat} {v0 v1 v2 v3 v4 v5 v6 v7 v8 v9 v10 v11 v12 : Value} (h1 : N ≤ w'.heap.size ∧ Below N w w' ∧ X) (hb : N ≤ b) : N ≤ (((((((((((((w'.setCell ⟨b, 0, none⟩ v0).setCell ⟨b, 1, none⟩ v1).setCell ⟨b, 2, none⟩ v2).setCell ⟨b, 3, none⟩ v3).setCell ⟨b, 4, none⟩ v4).setCell ⟨b, 5, none⟩ v5).setCell ⟨b, 6, none⟩ v6).setCell ⟨b, 7, none⟩ v7).setCell ⟨b, 8, none⟩ v8).setCell ⟨b, 9, none⟩ v9).setCell ⟨b, 10, none⟩ v10).setCell ⟨b, 11, none⟩ v11).setCell ⟨b, 12, none⟩ v12).heap.size ∧ Below N w (((((((((((((w'.setCell ⟨b, 0, none⟩ v0).setCell ⟨b, 1, none⟩ v1).setCell ⟨b, 2, none⟩ v2).setCell ⟨b, 3, none⟩ v3).setCell ⟨b, 4, none⟩ v4).setCell ⟨b, 5, none⟩ v5).setCell ⟨b, 6, none⟩ v6).setCell ⟨b, 7, none⟩ v7).setCell ⟨b, 8, none⟩ v8).setCell ⟨b, 9, none⟩ v9).setCell ⟨b, 10, none⟩ v10).setCell ⟨b, 11, none⟩ v11).setCell ⟨b, 12, none⟩ v12) ∧ ∀ c k, c < N → (((((((((((((w'.setCell ⟨b, 0, none⟩ v0).setCell ⟨b, 1, none⟩ v1).setCell ⟨b, 2, none⟩ v2).setCell ⟨b, 3, none⟩ v3).setCell ⟨b, 4, none⟩ v4).setCell ⟨b, 5, none⟩ v5).setCell ⟨b, 6, none⟩ v6).setCell ⟨b, 7, none⟩ v7).setCell ⟨b, 8, none⟩ v8).setCell ⟨b, 9, none⟩ v9).setCell ⟨b, 10, none⟩ v10).setCell ⟨b, 11, none⟩ v11).setCell ⟨b, 12, none⟩ v12).cell? ⟨c, k, none⟩ = w.cell? ⟨c, k, none⟩ :=
  have h := (((((((((((((h1.2.1.setCell (p := ⟨b, 0, none⟩) hb v0).setCell (p := ⟨b, 1, none⟩) hb v1).setCell (p := ⟨b, 2, none⟩) hb v2).setCell (p := ⟨b, 3, none⟩) hb v3).setCell (p := ⟨b, 4, none⟩) hb v4).setCell (p := ⟨b, 5, none⟩) hb v5).setCell (p := ⟨b, 6, none⟩) hb v6).setCell (p := ⟨b, 7, none⟩) hb v7).setCell (p := ⟨b, 8, none⟩) hb v8).setCell (p := ⟨b, 9, none⟩) hb v9).setCell (p := ⟨b, 10, none⟩) hb v10).setCell (p := ⟨b, 11, none⟩) hb v11).setCell (p := ⟨b, 12, none⟩) hb v12)
  ⟨by simpa using h1.1, h, fun c k hc => h.cell (p := ⟨c, k, none⟩) hc⟩
theorem near12c (r : RC) (odd : Int) (K : Nat) (w : World) (hW : K ≤ w.heap.size) (h : r.at_ w) : Calls Try.prog 8 #[.agg #[.int .i64 r.x, .int .i64 r.c.e, .int .i64 r.c.b, .int .i64 r.c.k, .slice r.a5 r.c.M.length r.q5, .slice r.a6 r.c.C.length r.q6], .int .i64 odd] w fun ev w' => ∃ (y : Int) (d : CF), ∃ a1 p1 a2 p2, ev = .returned (.agg #[.int .i64 y, .int .i64 d.e, .int .i64 d.b, .int .i64 d.k, .slice a1 d.M.length p1, .slice a2 d.C.length p2]) ∧ CFat d w' (.slice a1 d.M.length p1) (.slice a2 d.C.length p2) ∧ Below w.heap.size w w' ∧ Stays K w w' := by
  refine (near12 r.x r.c odd r.a5 r.a6 r.q5 r.q6 w h).mono ?_
  rintro ev w' ⟨y, d, a1, p1, a2, p2, rfl, h1, hb, -⟩
  exact ⟨y, d, a1, p1, a2, p2, rfl, h1, hb, stays_of hW hb⟩
theorem do12c (s : DS) (x : Int) (c : CF) (a1 a2 a3 a4 a5 a6 : Option Addr) (q1 q2 q3 q4 q5 q6 : Nat) (base K : Nat) (w : World) (h1 : CFO s.a base w (.slice a1 s.a.M.length q1) (.slice a2 s.a.C.length q2)) (h2 : CFO s.n base w (.slice a3 s.n.M.length q3) (.slice a4 s.n.C.length q4)) (hi : InvS s) (h5 : CFat c w (.slice a5 c.M.length q5) (.slice a6 c.C.length q6)) (hbs : base ≤ w.heap.size) (hW : K ≤ w.heap.size) :
    Calls Try.prog 7 #[.agg #[.int .i64 s.ep, .int .i64 s.a.e, .int .i64 s.a.b, .int .i64 s.a.k, .slice a1 s.a.M.length q1, .slice a2 s.a.C.length q2, .int .i64 s.n.e, .int .i64 s.n.b, .int .i64 s.n.k, .slice a3 s.n.M.length q3, .slice a4 s.n.C.length q4, .int .i64 s.s0, .int .i64 s.s1], .agg #[.int .i64 x, .int .i64 c.e, .int .i64 c.b, .int .i64 c.k, .slice a5 c.M.length q5, .slice a6 c.C.length q6]] w fun ev w' => ∃ sp : DS, ∃ b1 p1 b2 p2 b3 p3 b4 p4, ev = .returned (.agg #[.int .i64 sp.ep, .int .i64 sp.a.e, .int .i64 sp.a.b, .int .i64 sp.a.k, .slice b1 sp.a.M.length p1, .slice b2 sp.a.C.length p2, .int .i64 sp.n.e, .int .i64 sp.n.b, .int .i64 sp.n.k, .slice b3 sp.n.M.length p3, .slice b4 sp.n.C.length p4, .int .i64 sp.s0, .int .i64 sp.s1]) ∧ InvS sp ∧ CFO sp.a base w' (.slice b1 sp.a.M.length p1) (.slice b2 sp.a.C.length p2) ∧ CFO sp.n base w' (.slice b3 sp.n.M.length p3) (.slice b4 sp.n.C.length p4) ∧ Below w.heap.size w w' ∧ Stays K w w' := by
  refine (ddo' s x c a1 a2 a3 a4 a5 a6 q1 q2 q3 q4 q5 q6 w h1.at_ h2.at_ hi.1 hi.2.1 h5 hi.2.2.1 _ rfl).mono ?_
  rintro ev w' ⟨b1, p1, b2, p2, b3, p3, b4, p4, rfl, r1, r2, r3, r4, hb⟩
  exact ⟨_, b1, p1, b2, p2, b3, p3, b4, p4, rfl, inv_do s x c hi, r1.base (by omega), r2.base (by omega), hb, stays_of hW hb⟩
set_option maxHeartbeats 6400000 in
set_option maxRecDepth 40000 in
theorem once_law (a : Option Addr) (len cap : Nat) (c : Array Value) (odd : Int) (w : World) (hf0 : Fits w (.slice cmdShD) [.slice a len cap]) (hf1 : Fits w cmdShD c.toList) (hodd : (Lit.int .i64 odd).wf = true) :
    Calls Try.prog 3 #[.slice a len cap, .agg c, .int .i64 odd] w fun e w' => e = .returned (.bool true) ∧ Below w.heap.size w w' := by
  obtain ⟨r0, hc0, hr0⟩ := fits_rc hf1
  obtain rfl : c = #[.int .i64 r0.x, .int .i64 r0.c.e, .int .i64 r0.c.b, .int .i64 r0.c.k, .slice r0.a5 r0.c.M.length r0.q5, .slice r0.a6 r0.c.C.length r0.q6] := by rw [← Array.toList_inj, hc0]; rfl
  clear hc0 hf1
  obtain ⟨rs, hlr, hel, hrs⟩ := fits_rows (c := RC.cells) (good := fun r => r.at_ w) (fun ys h => fits_rc h) hf0
  have hcm := hf0.slice.2.1; have hlc := hf0.slice.1
  unfold maxLen at hcm
  have hst := lawrel_start w r0
  have HL := Lib.hid (And.intro hel (And.intro hrs (And.intro hr0 (And.intro hlr (And.intro hcm hlc)))))
  clear hel hrs hr0 hf0
  go_enter Try.func3, Try.ntmps3
  go_upto_block 0 with fail
  generalize (w.alloc (.cells #[.int .i64 r0.x, .int .i64 r0.c.e, .int .i64 r0.c.b, .int .i64 r0.c.k, .slice r0.a5 r0.c.M.length r0.q5, .slice r0.a6 r0.c.C.length r0.q6] 27)).alloc (.cells #[.int .i64 0, .int .i64 0, .int .i64 0, .int .i64 0, .slice none 0 0, .slice none 0 0, .int .i64 0, .int .i64 0, .int .i64 0, .slice none 0 0, .slice none 0 0, .int .i64 0, .int .i64 0] 30) = w1 at *
  have HS := Lib.hid hst
  clear hst
  go_cut [8] from 15 to 35 (fun _ wx => LawRel w r0 wx)
  case first =>
    go_wp2_with fail
    go_loopw [8] (fun i wr => ∃ j : Nat, j ≤ 20 ∧ i = .int .i64 j ∧ LawRel w r0 wr) (fun i _ => 20 - (intOf i).toNat)
    case atStart => exact ⟨0, by omega, rfl, HS.out⟩
    case round =>
      obtain ⟨j, hj, rfl, hrel⟩ := hrel
      clear HS
      have HR := Lib.hid hrel
      by_cases hin : j < len ∧ j < 20
      · obtain ⟨hi1, hi2⟩ := hin
        obtain ⟨S, b1, p1, b2, p2, b3, p3, b4, p4, hN, hM, r1, r2, hinv, hb, hz⟩ := hrel
        obtain ⟨r, hrj⟩ : ∃ r, rs[j]? = some r := ⟨_, List.getElem?_eq_getElem (by omega)⟩
        have hra := HL.out.2.1 r (List.mem_of_getElem? hrj)
        obtain ⟨-, g, off, rfl, hg, hc⟩ := HL.out.1.at_ hrj
        have l0 : wr.cell? ⟨g, off + j * 6, none⟩ = some (.int .i64 r.x) := (hb.cell (p := ⟨g, off + j * 6, none⟩) hg).trans (hc 0 _ rfl)
        have l1 : wr.cell? ⟨g, off + j * 6 + 1, none⟩ = some (.int .i64 r.c.e) := (hb.cell (p := ⟨g, off + j * 6 + 1, none⟩) hg).trans (hc 1 _ rfl)
        have l2 : wr.cell? ⟨g, off + j * 6 + 2, none⟩ = some (.int .i64 r.c.b) := (hb.cell (p := ⟨g, off + j * 6 + 2, none⟩) hg).trans (hc 2 _ rfl)
        have l3 : wr.cell? ⟨g, off + j * 6 + 3, none⟩ = some (.int .i64 r.c.k) := (hb.cell (p := ⟨g, off + j * 6 + 3, none⟩) hg).trans (hc 3 _ rfl)
        have l4 : wr.cell? ⟨g, off + j * 6 + 4, none⟩ = some (.slice r.a5 r.c.M.length r.q5) := (hb.cell (p := ⟨g, off + j * 6 + 4, none⟩) hg).trans (hc 4 _ rfl)
        have l5 : wr.cell? ⟨g, off + j * 6 + 5, none⟩ = some (.slice r.a6 r.c.C.length r.q6) := (hb.cell (p := ⟨g, off + j * 6 + 5, none⟩) hg).trans (hc 5 _ rfl)
        have hg' : g < w.heap.size + 1 := by omega
        have d0 := cell_atD hM 0 (v := .int .i64 S.ep) rfl
        have d1 := cell_atD hM 1 (v := .int .i64 S.a.e) rfl
        have d2 := cell_atD hM 2 (v := .int .i64 S.a.b) rfl
        have d3 := cell_atD hM 3 (v := .int .i64 S.a.k) rfl
        have d4 := cell_atD hM 4 (v := .slice b1 S.a.M.length p1) rfl
        have d5 := cell_atD hM 5 (v := .slice b2 S.a.C.length p2) rfl
        have d6 := cell_atD hM 6 (v := .int .i64 S.n.e) rfl
        have d7 := cell_atD hM 7 (v := .int .i64 S.n.b) rfl
        have d8 := cell_atD hM 8 (v := .int .i64 S.n.k) rfl
        have d9 := cell_atD hM 9 (v := .slice b3 S.n.M.length p3) rfl
        have d10 := cell_atD hM 10 (v := .slice b4 S.n.C.length p4) rfl
        have d11 := cell_atD hM 11 (v := .int .i64 S.s0) rfl
        have d12 := cell_atD hM 12 (v := .int .i64 S.s1) rfl
        have hra2 := CFat.below hra hb
        have m63 : bits .and .i64 odd 63 = odd % 64 := mask_mod odd 6 63 (by decide) (by decide)
        have r63 : 0 ≤ odd % 64 ∧ odd % 64 ≤ 63 := by omega
        generalize odd % 64 = O6 at m63 r63
        have hlt : (j : Int) < (len : Int) := by omega
        have hlt2 : (j : Int) < 20 := by omega
        have HY := Lib.hid (And.intro hN (And.intro r1 (And.intro r2 (And.intro hinv (And.intro hb (And.intro hz (hra2)))))))
        have HJ := Lib.hid hrj
        clear hN r1 r2 hinv hb hz hra hra2 hc hrj
        go_upto_region 5 with fail
        obtain ⟨K, hK⟩ : ∃ K, w.heap.size + 1 = K := ⟨_, rfl⟩
        simp only [hK] at hM d0 d1 d2 d3 d4 d5 d6 d7 d8 d9 d10 d11 d12 hg' ⊢
        have hKW : K ≤ wr.heap.size := by have := lt_heap hM; omega
        have hKK : K ≤ K := Nat.le_refl _
        have hNK : w.heap.size < K := by omega
        obtain ⟨r1, r2, hinv⟩ := And.intro HY.out.2.1 (And.intro HY.out.2.2.1 HY.out.2.2.2.1)
        have hbs : w.heap.size + 2 ≤ wr.heap.size := HY.out.2.2.2.2.2.1
        have HK := Lib.hid hK
        clear hK
        have hKD : K ≤ wr.drew.heap.size := hKW
        have hbD : Below w.heap.size w wr.drew := below_drew' HY.out.2.2.2.2.1
        have cN := near12c r (IntKind.i64.wrap (O6 + (j : Int))) K wr.drew hKD ((HL.out.2.1 r (List.mem_of_getElem? HJ.out)).below hbD)
        go_region_with (first | (go_at_call 8; (with_reducible refine Calls.mono cN ?_); rintro e wz ⟨y, d, a1, s1, a2, s2, rfl, hD, hbz, hz1⟩; replace hbz := below_undrew hbz; replace hM := below_at hbz (lt_heap hM) hM; replace r1 := r1.below hbz; replace r2 := r2.below hbz; replace hbs := Nat.le_trans hbs hbz.size; clear d0 d1 d2 d3 d4 d5 d6 d7 d8 d9 d10 d11 d12; have d0 := cell_atD hM 0 (v := .int .i64 S.ep) rfl; have d1 := cell_atD hM 1 (v := .int .i64 S.a.e) rfl; have d2 := cell_atD hM 2 (v := .int .i64 S.a.b) rfl; have d3 := cell_atD hM 3 (v := .int .i64 S.a.k) rfl; have d4 := cell_atD hM 4 (v := .slice b1 S.a.M.length p1) rfl; have d5 := cell_atD hM 5 (v := .slice b2 S.a.C.length p2) rfl; have d6 := cell_atD hM 6 (v := .int .i64 S.n.e) rfl; have d7 := cell_atD hM 7 (v := .int .i64 S.n.b) rfl; have d8 := cell_atD hM 8 (v := .int .i64 S.n.k) rfl; have d9 := cell_atD hM 9 (v := .slice b3 S.n.M.length p3) rfl; have d10 := cell_atD hM 10 (v := .slice b4 S.n.C.length p4) rfl; have d11 := cell_atD hM 11 (v := .int .i64 S.s0) rfl; have d12 := cell_atD hM 12 (v := .int .i64 S.s1) rfl; clear hbz) | (go_at_call 7; (have cDD := do12c S y d b1 b2 b3 b4 a1 a2 p1 p2 p3 p4 s1 s2 (w.heap.size + 2) K _ r1 r2 hinv hD hbs hz1.1); (with_reducible refine Calls.mono cDD ?_); clear cDD; rintro e wz ⟨T, e1, n1, e2, n2, e3, n3, e4, n4, rfl, hT, t1, t2, hbz, hz2⟩; replace hM := below_at hbz (lt_heap hM) hM; clear d0 d1 d2 d3 d4 d5 d6 d7 d8 d9 d10 d11 d12; have d0 := cell_atD hM 0 (v := .int .i64 S.ep) rfl; have d1 := cell_atD hM 1 (v := .int .i64 S.a.e) rfl; have d2 := cell_atD hM 2 (v := .int .i64 S.a.b) rfl; have d3 := cell_atD hM 3 (v := .int .i64 S.a.k) rfl; have d4 := cell_atD hM 4 (v := .slice b1 S.a.M.length p1) rfl; have d5 := cell_atD hM 5 (v := .slice b2 S.a.C.length p2) rfl; have d6 := cell_atD hM 6 (v := .int .i64 S.n.e) rfl; have d7 := cell_atD hM 7 (v := .int .i64 S.n.b) rfl; have d8 := cell_atD hM 8 (v := .int .i64 S.n.k) rfl; have d9 := cell_atD hM 9 (v := .slice b3 S.n.M.length p3) rfl; have d10 := cell_atD hM 10 (v := .slice b4 S.n.C.length p4) rfl; have d11 := cell_atD hM 11 (v := .int .i64 S.s0) rfl; have d12 := cell_atD hM 12 (v := .int .i64 S.s1) rfl; have f0 : wz.frozen? ⟨K, 0, none⟩ = false := (by simp [World.frozen?, hM]); have f1 : wz.frozen? ⟨K, 1, none⟩ = false := (by simp [World.frozen?, hM]); have f2 : wz.frozen? ⟨K, 2, none⟩ = false := (by simp [World.frozen?, hM]); have f3 : wz.frozen? ⟨K, 3, none⟩ = false := (by simp [World.frozen?, hM]); have f4 : wz.frozen? ⟨K, 4, none⟩ = false := (by simp [World.frozen?, hM]); have f5 : wz.frozen? ⟨K, 5, none⟩ = false := (by simp [World.frozen?, hM]); have f6 : wz.frozen? ⟨K, 6, none⟩ = false := (by simp [World.frozen?, hM]); have f7 : wz.frozen? ⟨K, 7, none⟩ = false := (by simp [World.frozen?, hM]); have f8 : wz.frozen? ⟨K, 8, none⟩ = false := (by simp [World.frozen?, hM]); have f9 : wz.frozen? ⟨K, 9, none⟩ = false := (by simp [World.frozen?, hM]); have f10 : wz.frozen? ⟨K, 10, none⟩ = false := (by simp [World.frozen?, hM]); have f11 : wz.frozen? ⟨K, 11, none⟩ = false := (by simp [World.frozen?, hM]); have f12 : wz.frozen? ⟨K, 12, none⟩ = false := (by simp [World.frozen?, hM]); clear hbz))
        all_goals
          have g1 : (wz.setCell ⟨K, 0, none⟩ (.int .i64 T.ep)).heap[K]? = some (.cells #[.int .i64 T.ep, .int .i64 S.a.e, .int .i64 S.a.b, .int .i64 S.a.k, .slice b1 S.a.M.length p1, .slice b2 S.a.C.length p2, .int .i64 S.n.e, .int .i64 S.n.b, .int .i64 S.n.k, .slice b3 S.n.M.length p3, .slice b4 S.n.C.length p4, .int .i64 S.s0, .int .i64 S.s1] 30) := heap_set_self hM 0 _
          have g2 : ((wz.setCell ⟨K, 0, none⟩ (.int .i64 T.ep)).setCell ⟨K, 1, none⟩ (.int .i64 T.a.e)).heap[K]? = some (.cells #[.int .i64 T.ep, .int .i64 T.a.e, .int .i64 S.a.b, .int .i64 S.a.k, .slice b1 S.a.M.length p1, .slice b2 S.a.C.length p2, .int .i64 S.n.e, .int .i64 S.n.b, .int .i64 S.n.k, .slice b3 S.n.M.length p3, .slice b4 S.n.C.length p4, .int .i64 S.s0, .int .i64 S.s1] 30) := heap_set_self g1 1 _
          have g3 : (((wz.setCell ⟨K, 0, none⟩ (.int .i64 T.ep)).setCell ⟨K, 1, none⟩ (.int .i64 T.a.e)).setCell ⟨K, 2, none⟩ (.int .i64 T.a.b)).heap[K]? = some (.cells #[.int .i64 T.ep, .int .i64 T.a.e, .int .i64 T.a.b, .int .i64 S.a.k, .slice b1 S.a.M.length p1, .slice b2 S.a.C.length p2, .int .i64 S.n.e, .int .i64 S.n.b, .int .i64 S.n.k, .slice b3 S.n.M.length p3, .slice b4 S.n.C.length p4, .int .i64 S.s0, .int .i64 S.s1] 30) := heap_set_self g2 2 _
          have g4 : ((((wz.setCell ⟨K, 0, none⟩ (.int .i64 T.ep)).setCell ⟨K, 1, none⟩ (.int .i64 T.a.e)).setCell ⟨K, 2, none⟩ (.int .i64 T.a.b)).setCell ⟨K, 3, none⟩ (.int .i64 T.a.k)).heap[K]? = some (.cells #[.int .i64 T.ep, .int .i64 T.a.e, .int .i64 T.a.b, .int .i64 T.a.k, .slice b1 S.a.M.length p1, .slice b2 S.a.C.length p2, .int .i64 S.n.e, .int .i64 S.n.b, .int .i64 S.n.k, .slice b3 S.n.M.length p3, .slice b4 S.n.C.length p4, .int .i64 S.s0, .int .i64 S.s1] 30) := heap_set_self g3 3 _
          have g5 : (((((wz.setCell ⟨K, 0, none⟩ (.int .i64 T.ep)).setCell ⟨K, 1, none⟩ (.int .i64 T.a.e)).setCell ⟨K, 2, none⟩ (.int .i64 T.a.b)).setCell ⟨K, 3, none⟩ (.int .i64 T.a.k)).setCell ⟨K, 4, none⟩ (.slice e1 T.a.M.length n1)).heap[K]? = some (.cells #[.int .i64 T.ep, .int .i64 T.a.e, .int .i64 T.a.b, .int .i64 T.a.k, .slice e1 T.a.M.length n1, .slice b2 S.a.C.length p2, .int .i64 S.n.e, .int .i64 S.n.b, .int .i64 S.n.k, .slice b3 S.n.M.length p3, .slice b4 S.n.C.length p4, .int .i64 S.s0, .int .i64 S.s1] 30) := heap_set_self g4 4 _
          have g6 : ((((((wz.setCell ⟨K, 0, none⟩ (.int .i64 T.ep)).setCell ⟨K, 1, none⟩ (.int .i64 T.a.e)).setCell ⟨K, 2, none⟩ (.int .i64 T.a.b)).setCell ⟨K, 3, none⟩ (.int .i64 T.a.k)).setCell ⟨K, 4, none⟩ (.slice e1 T.a.M.length n1)).setCell ⟨K, 5, none⟩ (.slice e2 T.a.C.length n2)).heap[K]? = some (.cells #[.int .i64 T.ep, .int .i64 T.a.e, .int .i64 T.a.b, .int .i64 T.a.k, .slice e1 T.a.M.length n1, .slice e2 T.a.C.length n2, .int .i64 S.n.e, .int .i64 S.n.b, .int .i64 S.n.k, .slice b3 S.n.M.length p3, .slice b4 S.n.C.length p4, .int .i64 S.s0, .int .i64 S.s1] 30) := heap_set_self g5 5 _
          have g7 : (((((((wz.setCell ⟨K, 0, none⟩ (.int .i64 T.ep)).setCell ⟨K, 1, none⟩ (.int .i64 T.a.e)).setCell ⟨K, 2, none⟩ (.int .i64 T.a.b)).setCell ⟨K, 3, none⟩ (.int .i64 T.a.k)).setCell ⟨K, 4, none⟩ (.slice e1 T.a.M.length n1)).setCell ⟨K, 5, none⟩ (.slice e2 T.a.C.length n2)).setCell ⟨K, 6, none⟩ (.int .i64 T.n.e)).heap[K]? = some (.cells #[.int .i64 T.ep, .int .i64 T.a.e, .int .i64 T.a.b, .int .i64 T.a.k, .slice e1 T.a.M.length n1, .slice e2 T.a.C.length n2, .int .i64 T.n.e, .int .i64 S.n.b, .int .i64 S.n.k, .slice b3 S.n.M.length p3, .slice b4 S.n.C.length p4, .int .i64 S.s0, .int .i64 S.s1] 30) := heap_set_self g6 6 _
          have g8 : ((((((((wz.setCell ⟨K, 0, none⟩ (.int .i64 T.ep)).setCell ⟨K, 1, none⟩ (.int .i64 T.a.e)).setCell ⟨K, 2, none⟩ (.int .i64 T.a.b)).setCell ⟨K, 3, none⟩ (.int .i64 T.a.k)).setCell ⟨K, 4, none⟩ (.slice e1 T.a.M.length n1)).setCell ⟨K, 5, none⟩ (.slice e2 T.a.C.length n2)).setCell ⟨K, 6, none⟩ (.int .i64 T.n.e)).setCell ⟨K, 7, none⟩ (.int .i64 T.n.b)).heap[K]? = some (.cells #[.int .i64 T.ep, .int .i64 T.a.e, .int .i64 T.a.b, .int .i64 T.a.k, .slice e1 T.a.M.length n1, .slice e2 T.a.C.length n2, .int .i64 T.n.e, .int .i64 T.n.b, .int .i64 S.n.k, .slice b3 S.n.M.length p3, .slice b4 S.n.C.length p4, .int .i64 S.s0, .int .i64 S.s1] 30) := heap_set_self g7 7 _
          have g9 : (((((((((wz.setCell ⟨K, 0, none⟩ (.int .i64 T.ep)).setCell ⟨K, 1, none⟩ (.int .i64 T.a.e)).setCell ⟨K, 2, none⟩ (.int .i64 T.a.b)).setCell ⟨K, 3, none⟩ (.int .i64 T.a.k)).setCell ⟨K, 4, none⟩ (.slice e1 T.a.M.length n1)).setCell ⟨K, 5, none⟩ (.slice e2 T.a.C.length n2)).setCell ⟨K, 6, none⟩ (.int .i64 T.n.e)).setCell ⟨K, 7, none⟩ (.int .i64 T.n.b)).setCell ⟨K, 8, none⟩ (.int .i64 T.n.k)).heap[K]? = some (.cells #[.int .i64 T.ep, .int .i64 T.a.e, .int .i64 T.a.b, .int .i64 T.a.k, .slice e1 T.a.M.length n1, .slice e2 T.a.C.length n2, .int .i64 T.n.e, .int .i64 T.n.b, .int .i64 T.n.k, .slice b3 S.n.M.length p3, .slice b4 S.n.C.length p4, .int .i64 S.s0, .int .i64 S.s1] 30) := heap_set_self g8 8 _
          have g10 : ((((((((((wz.setCell ⟨K, 0, none⟩ (.int .i64 T.ep)).setCell ⟨K, 1, none⟩ (.int .i64 T.a.e)).setCell ⟨K, 2, none⟩ (.int .i64 T.a.b)).setCell ⟨K, 3, none⟩ (.int .i64 T.a.k)).setCell ⟨K, 4, none⟩ (.slice e1 T.a.M.length n1)).setCell ⟨K, 5, none⟩ (.slice e2 T.a.C.length n2)).setCell ⟨K, 6, none⟩ (.int .i64 T.n.e)).setCell ⟨K, 7, none⟩ (.int .i64 T.n.b)).setCell ⟨K, 8, none⟩ (.int .i64 T.n.k)).setCell ⟨K, 9, none⟩ (.slice e3 T.n.M.length n3)).heap[K]? = some (.cells #[.int .i64 T.ep, .int .i64 T.a.e, .int .i64 T.a.b, .int .i64 T.a.k, .slice e1 T.a.M.length n1, .slice e2 T.a.C.length n2, .int .i64 T.n.e, .int .i64 T.n.b, .int .i64 T.n.k, .slice e3 T.n.M.length n3, .slice b4 S.n.C.length p4, .int .i64 S.s0, .int .i64 S.s1] 30) := heap_set_self g9 9 _
          have g11 : (((((((((((wz.setCell ⟨K, 0, none⟩ (.int .i64 T.ep)).setCell ⟨K, 1, none⟩ (.int .i64 T.a.e)).setCell ⟨K, 2, none⟩ (.int .i64 T.a.b)).setCell ⟨K, 3, none⟩ (.int .i64 T.a.k)).setCell ⟨K, 4, none⟩ (.slice e1 T.a.M.length n1)).setCell ⟨K, 5, none⟩ (.slice e2 T.a.C.length n2)).setCell ⟨K, 6, none⟩ (.int .i64 T.n.e)).setCell ⟨K, 7, none⟩ (.int .i64 T.n.b)).setCell ⟨K, 8, none⟩ (.int .i64 T.n.k)).setCell ⟨K, 9, none⟩ (.slice e3 T.n.M.length n3)).setCell ⟨K, 10, none⟩ (.slice e4 T.n.C.length n4)).heap[K]? = some (.cells #[.int .i64 T.ep, .int .i64 T.a.e, .int .i64 T.a.b, .int .i64 T.a.k, .slice e1 T.a.M.length n1, .slice e2 T.a.C.length n2, .int .i64 T.n.e, .int .i64 T.n.b, .int .i64 T.n.k, .slice e3 T.n.M.length n3, .slice e4 T.n.C.length n4, .int .i64 S.s0, .int .i64 S.s1] 30) := heap_set_self g10 10 _
          have g12 : ((((((((((((wz.setCell ⟨K, 0, none⟩ (.int .i64 T.ep)).setCell ⟨K, 1, none⟩ (.int .i64 T.a.e)).setCell ⟨K, 2, none⟩ (.int .i64 T.a.b)).setCell ⟨K, 3, none⟩ (.int .i64 T.a.k)).setCell ⟨K, 4, none⟩ (.slice e1 T.a.M.length n1)).setCell ⟨K, 5, none⟩ (.slice e2 T.a.C.length n2)).setCell ⟨K, 6, none⟩ (.int .i64 T.n.e)).setCell ⟨K, 7, none⟩ (.int .i64 T.n.b)).setCell ⟨K, 8, none⟩ (.int .i64 T.n.k)).setCell ⟨K, 9, none⟩ (.slice e3 T.n.M.length n3)).setCell ⟨K, 10, none⟩ (.slice e4 T.n.C.length n4)).setCell ⟨K, 11, none⟩ (.int .i64 T.s0)).heap[K]? = some (.cells #[.int .i64 T.ep, .int .i64 T.a.e, .int .i64 T.a.b, .int .i64 T.a.k, .slice e1 T.a.M.length n1, .slice e2 T.a.C.length n2, .int .i64 T.n.e, .int .i64 T.n.b, .int .i64 T.n.k, .slice e3 T.n.M.length n3, .slice e4 T.n.C.length n4, .int .i64 T.s0, .int .i64 S.s1] 30) := heap_set_self g11 11 _
          have g13 : (((((((((((((wz.setCell ⟨K, 0, none⟩ (.int .i64 T.ep)).setCell ⟨K, 1, none⟩ (.int .i64 T.a.e)).setCell ⟨K, 2, none⟩ (.int .i64 T.a.b)).setCell ⟨K, 3, none⟩ (.int .i64 T.a.k)).setCell ⟨K, 4, none⟩ (.slice e1 T.a.M.length n1)).setCell ⟨K, 5, none⟩ (.slice e2 T.a.C.length n2)).setCell ⟨K, 6, none⟩ (.int .i64 T.n.e)).setCell ⟨K, 7, none⟩ (.int .i64 T.n.b)).setCell ⟨K, 8, none⟩ (.int .i64 T.n.k)).setCell ⟨K, 9, none⟩ (.slice e3 T.n.M.length n3)).setCell ⟨K, 10, none⟩ (.slice e4 T.n.C.length n4)).setCell ⟨K, 11, none⟩ (.int .i64 T.s0)).setCell ⟨K, 12, none⟩ (.int .i64 T.s1)).heap[K]? = some (.cells #[.int .i64 T.ep, .int .i64 T.a.e, .int .i64 T.a.b, .int .i64 T.a.k, .slice e1 T.a.M.length n1, .slice e2 T.a.C.length n2, .int .i64 T.n.e, .int .i64 T.n.b, .int .i64 T.n.k, .slice e3 T.n.M.length n3, .slice e4 T.n.C.length n4, .int .i64 T.s0, .int .i64 T.s1] 30) := heap_set_self g12 12 _
          have gI := Lib.hid g13
          have gO := Lib.hid (show Only (K) wz (((((((((((((wz.setCell ⟨K, 0, none⟩ (.int .i64 T.ep)).setCell ⟨K, 1, none⟩ (.int .i64 T.a.e)).setCell ⟨K, 2, none⟩ (.int .i64 T.a.b)).setCell ⟨K, 3, none⟩ (.int .i64 T.a.k)).setCell ⟨K, 4, none⟩ (.slice e1 T.a.M.length n1)).setCell ⟨K, 5, none⟩ (.slice e2 T.a.C.length n2)).setCell ⟨K, 6, none⟩ (.int .i64 T.n.e)).setCell ⟨K, 7, none⟩ (.int .i64 T.n.b)).setCell ⟨K, 8, none⟩ (.int .i64 T.n.k)).setCell ⟨K, 9, none⟩ (.slice e3 T.n.M.length n3)).setCell ⟨K, 10, none⟩ (.slice e4 T.n.C.length n4)).setCell ⟨K, 11, none⟩ (.int .i64 T.s0)).setCell ⟨K, 12, none⟩ (.int .i64 T.s1)) from ((((((((((((((Only.refl _ _).set 0 _).set 1 _).set 2 _).set 3 _).set 4 _).set 5 _).set 6 _).set 7 _).set 8 _).set 9 _).set 10 _).set 11 _).set 12 _))
          clear g1 g2 g3 g4 g5 g6 g7 g8 g9 g10 g11 g12 g13
          have HZ := Lib.hid (And.intro hz1 (And.intro hz2 (And.intro hT (And.intro t1 (And.intro t2 (And.intro hM (hNK)))))))
          clear d0 d1 d2 d3 d4 d5 d6 d7 d8 d9 d10 d11 d12 hz1 hz2 hT t1 t2 hM hNK cN hKW hKK hKD hbD r1 r2 hinv hbs
          have hK := HK.out
          clear HK
          subst hK
          go_wp2_with fail
          go_roundw
          case rel => exact ⟨j + 1, by omega, by go_num, lawrel_next w r0 wr wz _ _ rfl T e1 e2 e3 e4 n1 n2 n3 n4 HZ.out.2.2.1 HZ.out.2.2.2.1 HZ.out.2.2.2.2.1 gI.out gO.out ((below_undrewK HZ.out.1.2).trans (HZ.out.2.1.2.trans (gO.out.below (Nat.le_refl _) HZ.out.2.1.1))) HY.out.1 HY.out.2.2.2.2.1⟩
          case measure => simp [intOf]; omega
      · have hout : ¬ (j < len) ∨ (j < len ∧ ¬ ((j : Int) < 20)) := by omega
        rcases hout with ho | ⟨ho, ho2⟩
        · have ho' : ¬ ((j : Int) < (len : Int)) := by omega
          go_wp2_with fail
          go_meet
          exact HR.out
        · have ho' : (j : Int) < (len : Int) := by omega
          go_wp2_with fail
          go_meet
          exact HR.out
  case rest => 
    obtain ⟨S, b1, p1, b2, p2, b3, p3, b4, p4, h4, h7, r1, r2, hinv, hb, hz⟩ := hcut
    have f7a := r1.at_
    have f7n := r2.at_
    have hr0 := HL.out.2.2.1.below hb
    clear HL HS r1 r2 hz
    have HI := Lib.hid hinv
    clear hinv
    have c0 := cell_atD h4 0 (v := .int .i64 r0.x) rfl
    have c1 := cell_atD h4 1 (v := .int .i64 r0.c.e) rfl
    have c2 := cell_atD h4 2 (v := .int .i64 r0.c.b) rfl
    have c3 := cell_atD h4 3 (v := .int .i64 r0.c.k) rfl
    have c4 := cell_atD h4 4 (v := .slice r0.a5 r0.c.M.length r0.q5) rfl
    have c5 := cell_atD h4 5 (v := .slice r0.a6 r0.c.C.length r0.q6) rfl
    have cN := near12 1 r0.c 6 r0.a5 r0.a6 r0.q5 r0.q6 wc hr0
    have HX := Lib.hid (And.intro h4 (And.intro h7 (And.intro f7a (And.intro f7n (hb)))))
    clear h4 h7 f7a f7n hb
    clear hr0
    go_wp2_with fail
    refine Calls.mono cN ?_
    rintro ev w2 ⟨y, d, a5, q5, a6, q6, rfl, hD, hb2, hyd⟩
    obtain ⟨rfl, hde⟩ := hyd rfl rfl
    have HDE := Lib.hid hde
    clear hde hyd cN c0 c1 c2 c3 c4 c5
    obtain ⟨h4, h7, f7a, f7n, hb⟩ := HX.out
    clear HX
    replace h4 := below_at hb2 (lt_heap h4) h4
    replace h7 := below_at hb2 (lt_heap h7) h7
    replace f7a := f7a.below hb2
    replace f7n := f7n.below hb2
    replace hb := hb.trans (hb2.mono hb.size)
    clear hb2
    have f9 := hD
    clear hD
    have hn := heap_alloc_self w2 (.cells #[.int .i64 1, .int .i64 d.e, .int .i64 d.b, .int .i64 d.k, .slice a5 d.M.length q5, .slice a6 d.C.length q6] 27)
    have hba : Below w2.heap.size w2 (w2.alloc (.cells #[.int .i64 1, .int .i64 d.e, .int .i64 d.b, .int .i64 d.k, .slice a5 d.M.length q5, .slice a6 d.C.length q6] 27)) := (Below.refl _ _).alloc (Nat.le_refl _) _
    replace h4 := below_at hba (lt_heap h4) h4
    replace h7 := below_at hba (lt_heap h7) h7
    replace f7a := f7a.below hba
    replace f7n := f7n.below hba
    replace hb := hb.trans (hba.mono hb.size)
    replace f9 := f9.below hba
    clear hba
    have h9 := hn
    clear hn
    have HX := Lib.hid (And.intro h4 (And.intro h7 (And.intro h9 (And.intro f7a (And.intro f7n (And.intro f9 (hb)))))))
    clear h4 h7 h9 f7a f7n f9 hb
    go_upto_region 7 with fail
    generalize w2.alloc (.cells #[.int .i64 1, .int .i64 d.e, .int .i64 d.b, .int .i64 d.k, .slice a5 d.M.length q5, .slice a6 d.C.length q6] 27) = w3 at *
    obtain ⟨h4, h7, h9, f7a, f7n, f9, hb⟩ := HX.out
    clear HX
    obtain ⟨A, hA⟩ : ∃ A, A = doS S 1 d := ⟨_, rfl⟩
    have hAA : A = doS A 1 d := by rw [hA]; exact (do_again S d).symm
    have hiA : InvS A := by rw [hA]; exact inv_do _ _ _ HI.out
    have HA := Lib.hid (And.intro hA (And.intro hAA hiA))
    clear hA hAA hiA
    have d0 := cell_atD h7 0 (v := .int .i64 S.ep) rfl
    have d1 := cell_atD h7 1 (v := .int .i64 S.a.e) rfl
    have d2 := cell_atD h7 2 (v := .int .i64 S.a.b) rfl
    have d3 := cell_atD h7 3 (v := .int .i64 S.a.k) rfl
    have d4 := cell_atD h7 4 (v := .slice b1 S.a.M.length p1) rfl
    have d5 := cell_atD h7 5 (v := .slice b2 S.a.C.length p2) rfl
    have d6 := cell_atD h7 6 (v := .int .i64 S.n.e) rfl
    have d7 := cell_atD h7 7 (v := .int .i64 S.n.b) rfl
    have d8 := cell_atD h7 8 (v := .int .i64 S.n.k) rfl
    have d9 := cell_atD h7 9 (v := .slice b3 S.n.M.length p3) rfl
    have d10 := cell_atD h7 10 (v := .slice b4 S.n.C.length p4) rfl
    have d11 := cell_atD h7 11 (v := .int .i64 S.s0) rfl
    have d12 := cell_atD h7 12 (v := .int .i64 S.s1) rfl
    have c0 := cell_atD h9 0 (v := .int .i64 1) rfl
    have c1 := cell_atD h9 1 (v := .int .i64 d.e) rfl
    have c2 := cell_atD h9 2 (v := .int .i64 d.b) rfl
    have c3 := cell_atD h9 3 (v := .int .i64 d.k) rfl
    have c4 := cell_atD h9 4 (v := .slice a5 d.M.length q5) rfl
    have c5 := cell_atD h9 5 (v := .slice a6 d.C.length q6) rfl
    have cD := ddo' S 1 d b1 b2 b3 b4 a5 a6 p1 p2 p3 p4 q5 q6 w3 f7a f7n HI.out.1 HI.out.2.1 f9 HI.out.2.2.1 A HA.out.1
    have HX := Lib.hid (And.intro h4 (And.intro h7 (And.intro h9 (And.intro f7a (And.intro f7n (And.intro f9 (hb)))))))
    clear h4 h7 h9 f7a f7n f9 hb
    go_wp2_with fail
    refine Calls.mono cD ?_
    rintro ev w4 ⟨e1, u1, e2, u2, e3, u3, e4, u4, rfl, t1, t2, -, -, hb2⟩
    clear cD d0 d1 d2 d3 d4 d5 d6 d7 d8 d9 d10 d11 d12 c0 c1 c2 c3 c4 c5
    obtain ⟨h4, h7, h9, f7a, f7n, f9, hb⟩ := HX.out
    clear HX
    replace h4 := below_at hb2 (lt_heap h4) h4
    replace h7 := below_at hb2 (lt_heap h7) h7
    replace h9 := below_at hb2 (lt_heap h9) h9
    replace f7a := f7a.below hb2
    replace f7n := f7n.below hb2
    replace f9 := f9.below hb2
    replace hb := hb.trans (hb2.mono hb.size)
    clear hb2
    have f10a := t1.at_
    have f10n := t2.at_
    clear t1 t2
    have hn := heap_alloc_self w4 (.cells #[.int .i64 A.ep, .int .i64 A.a.e, .int .i64 A.a.b, .int .i64 A.a.k, .slice e1 A.a.M.length u1, .slice e2 A.a.C.length u2, .int .i64 A.n.e, .int .i64 A.n.b, .int .i64 A.n.k, .slice e3 A.n.M.length u3, .slice e4 A.n.C.length u4, .int .i64 A.s0, .int .i64 A.s1] 30)
    have hba : Below w4.heap.size w4 (w4.alloc (.cells #[.int .i64 A.ep, .int .i64 A.a.e, .int .i64 A.a.b, .int .i64 A.a.k, .slice e1 A.a.M.length u1, .slice e2 A.a.C.length u2, .int .i64 A.n.e, .int .i64 A.n.b, .int .i64 A.n.k, .slice e3 A.n.M.length u3, .slice e4 A.n.C.length u4, .int .i64 A.s0, .int .i64 A.s1] 30)) := (Below.refl _ _).alloc (Nat.le_refl _) _
    replace h4 := below_at hba (lt_heap h4) h4
    replace h7 := below_at hba (lt_heap h7) h7
    replace h9 := below_at hba (lt_heap h9) h9
    replace f7a := f7a.below hba
    replace f7n := f7n.below hba
    replace f9 := f9.below hba
    replace hb := hb.trans (hba.mono hb.size)
    replace f10a := f10a.below hba
    replace f10n := f10n.below hba
    clear hba
    have h10 := hn
    clear hn
    have HX := Lib.hid (And.intro h4 (And.intro h7 (And.intro h9 (And.intro h10 (And.intro f7a (And.intro f7n (And.intro f9 (And.intro f10a (And.intro f10n (hb))))))))))
    clear h4 h7 h9 h10 f7a f7n f9 f10a f10n hb
    go_upto_region 8 with fail
    generalize w4.alloc (.cells #[.int .i64 A.ep, .int .i64 A.a.e, .int .i64 A.a.b, .int .i64 A.a.k, .slice e1 A.a.M.length u1, .slice e2 A.a.C.length u2, .int .i64 A.n.e, .int .i64 A.n.b, .int .i64 A.n.k, .slice e3 A.n.M.length u3, .slice e4 A.n.C.length u4, .int .i64 A.s0, .int .i64 A.s1] 30) = w5 at *
    obtain ⟨h4, h7, h9, h10, f7a, f7n, f9, f10a, f10n, hb⟩ := HX.out
    clear HX
    have d0 := cell_atD h10 0 (v := .int .i64 A.ep) rfl
    have d1 := cell_atD h10 1 (v := .int .i64 A.a.e) rfl
    have d2 := cell_atD h10 2 (v := .int .i64 A.a.b) rfl
    have d3 := cell_atD h10 3 (v := .int .i64 A.a.k) rfl
    have d4 := cell_atD h10 4 (v := .slice e1 A.a.M.length u1) rfl
    have d5 := cell_atD h10 5 (v := .slice e2 A.a.C.length u2) rfl
    have d6 := cell_atD h10 6 (v := .int .i64 A.n.e) rfl
    have d7 := cell_atD h10 7 (v := .int .i64 A.n.b) rfl
    have d8 := cell_atD h10 8 (v := .int .i64 A.n.k) rfl
    have d9 := cell_atD h10 9 (v := .slice e3 A.n.M.length u3) rfl
    have d10 := cell_atD h10 10 (v := .slice e4 A.n.C.length u4) rfl
    have d11 := cell_atD h10 11 (v := .int .i64 A.s0) rfl
    have d12 := cell_atD h10 12 (v := .int .i64 A.s1) rfl
    have c0 := cell_atD h9 0 (v := .int .i64 1) rfl
    have c1 := cell_atD h9 1 (v := .int .i64 d.e) rfl
    have c2 := cell_atD h9 2 (v := .int .i64 d.b) rfl
    have c3 := cell_atD h9 3 (v := .int .i64 d.k) rfl
    have c4 := cell_atD h9 4 (v := .slice a5 d.M.length q5) rfl
    have c5 := cell_atD h9 5 (v := .slice a6 d.C.length q6) rfl
    have cD := ddo' A 1 d e1 e2 e3 e4 a5 a6 u1 u2 u3 u4 q5 q6 w5 f10a f10n HA.out.2.2.1 HA.out.2.2.2.1 f9 HA.out.2.2.2.2.1 A HA.out.2.1
    have HX := Lib.hid (And.intro h4 (And.intro h7 (And.intro h9 (And.intro h10 (And.intro f7a (And.intro f7n (And.intro f9 (And.intro f10a (And.intro f10n (hb))))))))))
    clear h4 h7 h9 h10 f7a f7n f9 f10a f10n hb
    go_wp2_with fail
    refine Calls.mono cD ?_
    rintro ev w6 ⟨g1, v1, g2, v2, g3, v3, g4, v4, rfl, t1, t2, -, -, hb2⟩
    clear cD d0 d1 d2 d3 d4 d5 d6 d7 d8 d9 d10 d11 d12 c0 c1 c2 c3 c4 c5
    obtain ⟨h4, h7, h9, h10, f7a, f7n, f9, f10a, f10n, hb⟩ := HX.out
    clear HX
    replace h4 := below_at hb2 (lt_heap h4) h4
    replace h7 := below_at hb2 (lt_heap h7) h7
    replace h9 := below_at hb2 (lt_heap h9) h9
    replace h10 := below_at hb2 (lt_heap h10) h10
    replace f7a := f7a.below hb2
    replace f7n := f7n.below hb2
    replace f9 := f9.below hb2
    replace f10a := f10a.below hb2
    replace f10n := f10n.below hb2
    replace hb := hb.trans (hb2.mono hb.size)
    clear hb2
    have f11a := t1.at_
    have f11n := t2.at_
    clear t1 t2
    have hn := heap_alloc_self w6 (.cells #[.int .i64 A.ep, .int .i64 A.a.e, .int .i64 A.a.b, .int .i64 A.a.k, .slice g1 A.a.M.length v1, .slice g2 A.a.C.length v2, .int .i64 A.n.e, .int .i64 A.n.b, .int .i64 A.n.k, .slice g3 A.n.M.length v3, .slice g4 A.n.C.length v4, .int .i64 A.s0, .int .i64 A.s1] 30)
    have hba : Below w6.heap.size w6 (w6.alloc (.cells #[.int .i64 A.ep, .int .i64 A.a.e, .int .i64 A.a.b, .int .i64 A.a.k, .slice g1 A.a.M.length v1, .slice g2 A.a.C.length v2, .int .i64 A.n.e, .int .i64 A.n.b, .int .i64 A.n.k, .slice g3 A.n.M.length v3, .slice g4 A.n.C.length v4, .int .i64 A.s0, .int .i64 A.s1] 30)) := (Below.refl _ _).alloc (Nat.le_refl _) _
    replace h4 := below_at hba (lt_heap h4) h4
    replace h7 := below_at hba (lt_heap h7) h7
    replace h9 := below_at hba (lt_heap h9) h9
    replace h10 := below_at hba (lt_heap h10) h10
    replace f7a := f7a.below hba
    replace f7n := f7n.below hba
    replace f9 := f9.below hba
    replace f10a := f10a.below hba
    replace f10n := f10n.below hba
    replace hb := hb.trans (hba.mono hb.size)
    replace f11a := f11a.below hba
    replace f11n := f11n.below hba
    clear hba
    have h11 := hn
    clear hn
    have HX := Lib.hid (And.intro h4 (And.intro h7 (And.intro h9 (And.intro h10 (And.intro h11 (And.intro f7a (And.intro f7n (And.intro f9 (And.intro f10a (And.intro f10n (And.intro f11a (And.intro f11n (hb)))))))))))))
    clear h4 h7 h9 h10 h11 f7a f7n f9 f10a f10n f11a f11n hb
    go_upto_region 9 with fail
    generalize w6.alloc (.cells #[.int .i64 A.ep, .int .i64 A.a.e, .int .i64 A.a.b, .int .i64 A.a.k, .slice g1 A.a.M.length v1, .slice g2 A.a.C.length v2, .int .i64 A.n.e, .int .i64 A.n.b, .int .i64 A.n.k, .slice g3 A.n.M.length v3, .slice g4 A.n.C.length v4, .int .i64 A.s0, .int .i64 A.s1] 30) = w7 at *
    obtain ⟨h4, h7, h9, h10, h11, f7a, f7n, f9, f10a, f10n, f11a, f11n, hb⟩ := HX.out
    clear HX
    obtain ⟨Y, hY⟩ : ∃ Y, Y = doS A 2 ⟨S.ep, 0, 0, [], []⟩ := ⟨_, rfl⟩
    obtain ⟨Z, hZ⟩ : ∃ Z, Z = doS A 2 ⟨A.ep, 0, 0, [], []⟩ := ⟨_, rfl⟩
    have HYZ := Lib.hid (And.intro hY hZ)
    clear hY hZ
    have x0 := cell_atD h7 0 (v := .int .i64 S.ep) rfl
    have d0 := cell_atD h11 0 (v := .int .i64 A.ep) rfl
    have d1 := cell_atD h11 1 (v := .int .i64 A.a.e) rfl
    have d2 := cell_atD h11 2 (v := .int .i64 A.a.b) rfl
    have d3 := cell_atD h11 3 (v := .int .i64 A.a.k) rfl
    have d4 := cell_atD h11 4 (v := .slice g1 A.a.M.length v1) rfl
    have d5 := cell_atD h11 5 (v := .slice g2 A.a.C.length v2) rfl
    have d6 := cell_atD h11 6 (v := .int .i64 A.n.e) rfl
    have d7 := cell_atD h11 7 (v := .int .i64 A.n.b) rfl
    have d8 := cell_atD h11 8 (v := .int .i64 A.n.k) rfl
    have d9 := cell_atD h11 9 (v := .slice g3 A.n.M.length v3) rfl
    have d10 := cell_atD h11 10 (v := .slice g4 A.n.C.length v4) rfl
    have d11 := cell_atD h11 11 (v := .int .i64 A.s0) rfl
    have d12 := cell_atD h11 12 (v := .int .i64 A.s1) rfl
    have cD := ddo' A 2 ⟨S.ep, 0, 0, [], []⟩ g1 g2 g3 g4 none none v1 v2 v3 v4 0 0 w7 f11a f11n HA.out.2.2.1 HA.out.2.2.2.1 ⟨SR.nil_ _ _, SR.nil_ _ _⟩ HA.out.2.2.2.2.1 Y HYZ.out.1
    simp only [List.length_nil] at cD
    have HX := Lib.hid (And.intro h4 (And.intro h7 (And.intro h9 (And.intro h10 (And.intro h11 (And.intro f7a (And.intro f7n (And.intro f9 (And.intro f10a (And.intro f10n (And.intro f11a (And.intro f11n (hb)))))))))))))
    clear h4 h7 h9 h10 h11 f7a f7n f9 f10a f10n f11a f11n hb
    go_wp2_with fail
    refine Calls.mono cD ?_
    rintro ev w8 ⟨i1, z1, i2, z2, i3, z3, i4, z4, rfl, t1, t2, -, -, hb2⟩
    clear cD d0 d1 d2 d3 d4 d5 d6 d7 d8 d9 d10 d11 d12
    obtain ⟨h4, h7, h9, h10, h11, f7a, f7n, f9, f10a, f10n, f11a, f11n, hb⟩ := HX.out
    clear HX
    replace h4 := below_at hb2 (lt_heap h4) h4
    replace h7 := below_at hb2 (lt_heap h7) h7
    replace h9 := below_at hb2 (lt_heap h9) h9
    replace h10 := below_at hb2 (lt_heap h10) h10
    replace h11 := below_at hb2 (lt_heap h11) h11
    replace f7a := f7a.below hb2
    replace f7n := f7n.below hb2
    replace f9 := f9.below hb2
    replace f10a := f10a.below hb2
    replace f10n := f10n.below hb2
    replace f11a := f11a.below hb2
    replace f11n := f11n.below hb2
    replace hb := hb.trans (hb2.mono hb.size)
    clear hb2
    have f12a := t1.at_
    have f12n := t2.at_
    clear t1 t2
    have hn := heap_alloc_self w8 (.cells #[.int .i64 Y.ep, .int .i64 Y.a.e, .int .i64 Y.a.b, .int .i64 Y.a.k, .slice i1 Y.a.M.length z1, .slice i2 Y.a.C.length z2, .int .i64 Y.n.e, .int .i64 Y.n.b, .int .i64 Y.n.k, .slice i3 Y.n.M.length z3, .slice i4 Y.n.C.length z4, .int .i64 Y.s0, .int .i64 Y.s1] 30)
    have hba : Below w8.heap.size w8 (w8.alloc (.cells #[.int .i64 Y.ep, .int .i64 Y.a.e, .int .i64 Y.a.b, .int .i64 Y.a.k, .slice i1 Y.a.M.length z1, .slice i2 Y.a.C.length z2, .int .i64 Y.n.e, .int .i64 Y.n.b, .int .i64 Y.n.k, .slice i3 Y.n.M.length z3, .slice i4 Y.n.C.length z4, .int .i64 Y.s0, .int .i64 Y.s1] 30)) := (Below.refl _ _).alloc (Nat.le_refl _) _
    replace h4 := below_at hba (lt_heap h4) h4
    replace h7 := below_at hba (lt_heap h7) h7
    replace h9 := below_at hba (lt_heap h9) h9
    replace h10 := below_at hba (lt_heap h10) h10
    replace h11 := below_at hba (lt_heap h11) h11
    replace f7a := f7a.below hba
    replace f7n := f7n.below hba
    replace f9 := f9.below hba
    replace f10a := f10a.below hba
    replace f10n := f10n.below hba
    replace f11a := f11a.below hba
    replace f11n := f11n.below hba
    replace hb := hb.trans (hba.mono hb.size)
    replace f12a := f12a.below hba
    replace f12n := f12n.below hba
    clear hba
    have h12 := hn
    clear hn
    have HX := Lib.hid (And.intro h4 (And.intro h7 (And.intro h9 (And.intro h10 (And.intro h11 (And.intro h12 (And.intro f7a (And.intro f7n (And.intro f9 (And.intro f10a (And.intro f10n (And.intro f11a (And.intro f11n (And.intro f12a (And.intro f12n (hb))))))))))))))))
    clear h4 h7 h9 h10 h11 h12 f7a f7n f9 f10a f10n f11a f11n f12a f12n hb
    go_upto_region 10 with fail
    generalize w8.alloc (.cells #[.int .i64 Y.ep, .int .i64 Y.a.e, .int .i64 Y.a.b, .int .i64 Y.a.k, .slice i1 Y.a.M.length z1, .slice i2 Y.a.C.length z2, .int .i64 Y.n.e, .int .i64 Y.n.b, .int .i64 Y.n.k, .slice i3 Y.n.M.length z3, .slice i4 Y.n.C.length z4, .int .i64 Y.s0, .int .i64 Y.s1] 30) = w9 at *
    obtain ⟨h4, h7, h9, h10, h11, h12, f7a, f7n, f9, f10a, f10n, f11a, f11n, f12a, f12n, hb⟩ := HX.out
    clear HX
    clear x0
    have d0 := cell_atD h11 0 (v := .int .i64 A.ep) rfl
    have d1 := cell_atD h11 1 (v := .int .i64 A.a.e) rfl
    have d2 := cell_atD h11 2 (v := .int .i64 A.a.b) rfl
    have d3 := cell_atD h11 3 (v := .int .i64 A.a.k) rfl
    have d4 := cell_atD h11 4 (v := .slice g1 A.a.M.length v1) rfl
    have d5 := cell_atD h11 5 (v := .slice g2 A.a.C.length v2) rfl
    have d6 := cell_atD h11 6 (v := .int .i64 A.n.e) rfl
    have d7 := cell_atD h11 7 (v := .int .i64 A.n.b) rfl
    have d8 := cell_atD h11 8 (v := .int .i64 A.n.k) rfl
    have d9 := cell_atD h11 9 (v := .slice g3 A.n.M.length v3) rfl
    have d10 := cell_atD h11 10 (v := .slice g4 A.n.C.length v4) rfl
    have d11 := cell_atD h11 11 (v := .int .i64 A.s0) rfl
    have d12 := cell_atD h11 12 (v := .int .i64 A.s1) rfl
    have cD := ddo' A 2 ⟨A.ep, 0, 0, [], []⟩ g1 g2 g3 g4 none none v1 v2 v3 v4 0 0 w9 f11a f11n HA.out.2.2.1 HA.out.2.2.2.1 ⟨SR.nil_ _ _, SR.nil_ _ _⟩ HA.out.2.2.2.2.1 Z HYZ.out.2
    simp only [List.length_nil] at cD
    have HX := Lib.hid (And.intro h4 (And.intro h7 (And.intro h9 (And.intro h10 (And.intro h11 (And.intro h12 (And.intro f7a (And.intro f7n (And.intro f9 (And.intro f10a (And.intro f10n (And.intro f11a (And.intro f11n (And.intro f12a (And.intro f12n (hb))))))))))))))))
    clear h4 h7 h9 h10 h11 h12 f7a f7n f9 f10a f10n f11a f11n f12a f12n hb
    go_wp2_with fail
    refine Calls.mono cD ?_
    rintro ev w10 ⟨m1, t1, m2, t2, m3, t3, m4, t4, rfl, t1, t2, -, -, hb2⟩
    clear cD d0 d1 d2 d3 d4 d5 d6 d7 d8 d9 d10 d11 d12
    obtain ⟨h4, h7, h9, h10, h11, h12, f7a, f7n, f9, f10a, f10n, f11a, f11n, f12a, f12n, hb⟩ := HX.out
    clear HX
    replace h4 := below_at hb2 (lt_heap h4) h4
    replace h7 := below_at hb2 (lt_heap h7) h7
    replace h9 := below_at hb2 (lt_heap h9) h9
    replace h10 := below_at hb2 (lt_heap h10) h10
    replace h11 := below_at hb2 (lt_heap h11) h11
    replace h12 := below_at hb2 (lt_heap h12) h12
    replace f7a := f7a.below hb2
    replace f7n := f7n.below hb2
    replace f9 := f9.below hb2
    replace f10a := f10a.below hb2
    replace f10n := f10n.below hb2
    replace f11a := f11a.below hb2
    replace f11n := f11n.below hb2
    replace f12a := f12a.below hb2
    replace f12n := f12n.below hb2
    replace hb := hb.trans (hb2.mono hb.size)
    clear hb2
    have f13a := t1.at_
    have f13n := t2.at_
    clear t1 t2
    have hn := heap_alloc_self w10 (.cells #[.int .i64 Z.ep, .int .i64 Z.a.e, .int .i64 Z.a.b, .int .i64 Z.a.k, .slice m1 Z.a.M.length t1, .slice m2 Z.a.C.length t2, .int .i64 Z.n.e, .int .i64 Z.n.b, .int .i64 Z.n.k, .slice m3 Z.n.M.length t3, .slice m4 Z.n.C.length t4, .int .i64 Z.s0, .int .i64 Z.s1] 30)
    have hba : Below w10.heap.size w10 (w10.alloc (.cells #[.int .i64 Z.ep, .int .i64 Z.a.e, .int .i64 Z.a.b, .int .i64 Z.a.k, .slice m1 Z.a.M.length t1, .slice m2 Z.a.C.length t2, .int .i64 Z.n.e, .int .i64 Z.n.b, .int .i64 Z.n.k, .slice m3 Z.n.M.length t3, .slice m4 Z.n.C.length t4, .int .i64 Z.s0, .int .i64 Z.s1] 30)) := (Below.refl _ _).alloc (Nat.le_refl _) _
    replace h4 := below_at hba (lt_heap h4) h4
    replace h7 := below_at hba (lt_heap h7) h7
    replace h9 := below_at hba (lt_heap h9) h9
    replace h10 := below_at hba (lt_heap h10) h10
    replace h11 := below_at hba (lt_heap h11) h11
    replace h12 := below_at hba (lt_heap h12) h12
    replace f7a := f7a.below hba
    replace f7n := f7n.below hba
    replace f9 := f9.below hba
    replace f10a := f10a.below hba
    replace f10n := f10n.below hba
    replace f11a := f11a.below hba
    replace f11n := f11n.below hba
    replace f12a := f12a.below hba
    replace f12n := f12n.below hba
    replace hb := hb.trans (hba.mono hb.size)
    replace f13a := f13a.below hba
    replace f13n := f13n.below hba
    clear hba
    have h13 := hn
    clear hn
    have HX := Lib.hid (And.intro h4 (And.intro h7 (And.intro h9 (And.intro h10 (And.intro h11 (And.intro h12 (And.intro h13 (And.intro f7a (And.intro f7n (And.intro f9 (And.intro f10a (And.intro f10n (And.intro f11a (And.intro f11n (And.intro f12a (And.intro f12n (And.intro f13a (And.intro f13n (hb)))))))))))))))))))
    clear h4 h7 h9 h10 h11 h12 h13 f7a f7n f9 f10a f10n f11a f11n f12a f12n f13a f13n hb
    go_upto_region 11 with fail
    generalize w10.alloc (.cells #[.int .i64 Z.ep, .int .i64 Z.a.e, .int .i64 Z.a.b, .int .i64 Z.a.k, .slice m1 Z.a.M.length t1, .slice m2 Z.a.C.length t2, .int .i64 Z.n.e, .int .i64 Z.n.b, .int .i64 Z.n.k, .slice m3 Z.n.M.length t3, .slice m4 Z.n.C.length t4, .int .i64 Z.s0, .int .i64 Z.s1] 30) = w11 at *
    obtain ⟨h4, h7, h9, h10, h11, h12, h13, f7a, f7n, f9, f10a, f10n, f11a, f11n, f12a, f12n, f13a, f13n, hb⟩ := HX.out
    clear HX
    have HX := Lib.hid (And.intro h4 (And.intro h7 (And.intro h9 (And.intro h10 (And.intro h11 (And.intro h12 (And.intro h13 (And.intro f7a (And.intro f7n (And.intro f9 (And.intro f10a (And.intro f10n (And.intro f11a (And.intro f11n (And.intro f12a (And.intro f12n (And.intro f13a (And.intro f13n (hb)))))))))))))))))))
    clear h4 h7 h9 h10 h11 h12 h13 f7a f7n f9 f10a f10n f11a f11n f12a f12n f13a f13n hb
    go_wp2_with fail
    refine Calls.mono (awake12 _) ?_
    rintro ev w12 ⟨rfl, hb2⟩
    obtain ⟨h4, h7, h9, h10, h11, h12, h13, f7a, f7n, f9, f10a, f10n, f11a, f11n, f12a, f12n, f13a, f13n, hb⟩ := HX.out
    clear HX
    replace h4 := below_at hb2 (lt_heap h4) h4
    replace h7 := below_at hb2 (lt_heap h7) h7
    replace h9 := below_at hb2 (lt_heap h9) h9
    replace h10 := below_at hb2 (lt_heap h10) h10
    replace h11 := below_at hb2 (lt_heap h11) h11
    replace h12 := below_at hb2 (lt_heap h12) h12
    replace h13 := below_at hb2 (lt_heap h13) h13
    replace f7a := f7a.below hb2
    replace f7n := f7n.below hb2
    replace f9 := f9.below hb2
    replace f10a := f10a.below hb2
    replace f10n := f10n.below hb2
    replace f11a := f11a.below hb2
    replace f11n := f11n.below hb2
    replace f12a := f12a.below hb2
    replace f12n := f12n.below hb2
    replace f13a := f13a.below hb2
    replace f13n := f13n.below hb2
    replace hb := hb.trans (hb2.mono hb.size)
    clear hb2
    have d0 := cell_atD h10 0 (v := .int .i64 A.ep) rfl
    have d1 := cell_atD h10 1 (v := .int .i64 A.a.e) rfl
    have d2 := cell_atD h10 2 (v := .int .i64 A.a.b) rfl
    have d3 := cell_atD h10 3 (v := .int .i64 A.a.k) rfl
    have d4 := cell_atD h10 4 (v := .slice e1 A.a.M.length u1) rfl
    have d5 := cell_atD h10 5 (v := .slice e2 A.a.C.length u2) rfl
    have d6 := cell_atD h10 6 (v := .int .i64 A.n.e) rfl
    have d7 := cell_atD h10 7 (v := .int .i64 A.n.b) rfl
    have d8 := cell_atD h10 8 (v := .int .i64 A.n.k) rfl
    have d9 := cell_atD h10 9 (v := .slice e3 A.n.M.length u3) rfl
    have d10 := cell_atD h10 10 (v := .slice e4 A.n.C.length u4) rfl
    have d11 := cell_atD h10 11 (v := .int .i64 A.s0) rfl
    have d12 := cell_atD h10 12 (v := .int .i64 A.s1) rfl
    have c0 := cell_atD h11 0 (v := .int .i64 A.ep) rfl
    have c1 := cell_atD h11 1 (v := .int .i64 A.a.e) rfl
    have c2 := cell_atD h11 2 (v := .int .i64 A.a.b) rfl
    have c3 := cell_atD h11 3 (v := .int .i64 A.a.k) rfl
    have c4 := cell_atD h11 4 (v := .slice g1 A.a.M.length v1) rfl
    have c5 := cell_atD h11 5 (v := .slice g2 A.a.C.length v2) rfl
    have c6 := cell_atD h11 6 (v := .int .i64 A.n.e) rfl
    have c7 := cell_atD h11 7 (v := .int .i64 A.n.b) rfl
    have c8 := cell_atD h11 8 (v := .int .i64 A.n.k) rfl
    have c9 := cell_atD h11 9 (v := .slice g3 A.n.M.length v3) rfl
    have c10 := cell_atD h11 10 (v := .slice g4 A.n.C.length v4) rfl
    have c11 := cell_atD h11 11 (v := .int .i64 A.s0) rfl
    have c12 := cell_atD h11 12 (v := .int .i64 A.s1) rfl
    have cS := dsame A (.agg #[.int .i64 A.ep, .int .i64 A.a.e, .int .i64 A.a.b, .int .i64 A.a.k, .slice e1 A.a.M.length u1, .slice e2 A.a.C.length u2, .int .i64 A.n.e, .int .i64 A.n.b, .int .i64 A.n.k, .slice e3 A.n.M.length u3, .slice e4 A.n.C.length u4, .int .i64 A.s0, .int .i64 A.s1]) (.agg #[.int .i64 A.ep, .int .i64 A.a.e, .int .i64 A.a.b, .int .i64 A.a.k, .slice g1 A.a.M.length v1, .slice g2 A.a.C.length v2, .int .i64 A.n.e, .int .i64 A.n.b, .int .i64 A.n.k, .slice g3 A.n.M.length v3, .slice g4 A.n.C.length v4, .int .i64 A.s0, .int .i64 A.s1]) w12 ⟨_, _, _, _, rfl, f10a, f10n, HA.out.2.2.1, HA.out.2.2.2.1⟩ ⟨_, _, _, _, rfl, f11a, f11n, HA.out.2.2.1, HA.out.2.2.2.1⟩
    have HX := Lib.hid (And.intro h4 (And.intro h7 (And.intro h9 (And.intro h10 (And.intro h11 (And.intro h12 (And.intro h13 (And.intro f7a (And.intro f7n (And.intro f9 (And.intro f10a (And.intro f10n (And.intro f11a (And.intro f11n (And.intro f12a (And.intro f12n (And.intro f13a (And.intro f13n (hb)))))))))))))))))))
    clear h4 h7 h9 h10 h11 h12 h13 f7a f7n f9 f10a f10n f11a f11n f12a f12n f13a f13n hb
    go_wp2_with fail
    refine Calls.mono cS ?_
    rintro ev w13 ⟨rfl, hb2⟩
    clear cS d0 c0 d1 c1 d2 c2 d3 c3 d4 c4 d5 c5 d6 c6 d7 c7 d8 c8 d9 c9 d10 c10 d11 c11 d12 c12
    obtain ⟨h4, h7, h9, h10, h11, h12, h13, f7a, f7n, f9, f10a, f10n, f11a, f11n, f12a, f12n, f13a, f13n, hb⟩ := HX.out
    clear HX
    replace h4 := below_at hb2 (lt_heap h4) h4
    replace h7 := below_at hb2 (lt_heap h7) h7
    replace h9 := below_at hb2 (lt_heap h9) h9
    replace h10 := below_at hb2 (lt_heap h10) h10
    replace h11 := below_at hb2 (lt_heap h11) h11
    replace h12 := below_at hb2 (lt_heap h12) h12
    replace h13 := below_at hb2 (lt_heap h13) h13
    replace f7a := f7a.below hb2
    replace f7n := f7n.below hb2
    replace f9 := f9.below hb2
    replace f10a := f10a.below hb2
    replace f10n := f10n.below hb2
    replace f11a := f11a.below hb2
    replace f11n := f11n.below hb2
    replace f12a := f12a.below hb2
    replace f12n := f12n.below hb2
    replace f13a := f13a.below hb2
    replace f13n := f13n.below hb2
    replace hb := hb.trans (hb2.mono hb.size)
    clear hb2
    have hcs := do_cases S d
    rw [← HA.out.1] at hcs
    have HC := Lib.hid hcs
    clear hcs
    rcases HC.out with hAS | ⟨he1, he2, he3⟩
    · clear HC
      subst hAS
      have d0 := cell_atD h10 0 (v := .int .i64 A.ep) rfl
      have d1 := cell_atD h10 1 (v := .int .i64 A.a.e) rfl
      have d2 := cell_atD h10 2 (v := .int .i64 A.a.b) rfl
      have d3 := cell_atD h10 3 (v := .int .i64 A.a.k) rfl
      have d4 := cell_atD h10 4 (v := .slice e1 A.a.M.length u1) rfl
      have d5 := cell_atD h10 5 (v := .slice e2 A.a.C.length u2) rfl
      have d6 := cell_atD h10 6 (v := .int .i64 A.n.e) rfl
      have d7 := cell_atD h10 7 (v := .int .i64 A.n.b) rfl
      have d8 := cell_atD h10 8 (v := .int .i64 A.n.k) rfl
      have d9 := cell_atD h10 9 (v := .slice e3 A.n.M.length u3) rfl
      have d10 := cell_atD h10 10 (v := .slice e4 A.n.C.length u4) rfl
      have d11 := cell_atD h10 11 (v := .int .i64 A.s0) rfl
      have d12 := cell_atD h10 12 (v := .int .i64 A.s1) rfl
      have c0 := cell_atD h7 0 (v := .int .i64 A.ep) rfl
      have c1 := cell_atD h7 1 (v := .int .i64 A.a.e) rfl
      have c2 := cell_atD h7 2 (v := .int .i64 A.a.b) rfl
      have c3 := cell_atD h7 3 (v := .int .i64 A.a.k) rfl
      have c4 := cell_atD h7 4 (v := .slice b1 A.a.M.length p1) rfl
      have c5 := cell_atD h7 5 (v := .slice b2 A.a.C.length p2) rfl
      have c6 := cell_atD h7 6 (v := .int .i64 A.n.e) rfl
      have c7 := cell_atD h7 7 (v := .int .i64 A.n.b) rfl
      have c8 := cell_atD h7 8 (v := .int .i64 A.n.k) rfl
      have c9 := cell_atD h7 9 (v := .slice b3 A.n.M.length p3) rfl
      have c10 := cell_atD h7 10 (v := .slice b4 A.n.C.length p4) rfl
      have c11 := cell_atD h7 11 (v := .int .i64 A.s0) rfl
      have c12 := cell_atD h7 12 (v := .int .i64 A.s1) rfl
      have cS := dsame A (.agg #[.int .i64 A.ep, .int .i64 A.a.e, .int .i64 A.a.b, .int .i64 A.a.k, .slice e1 A.a.M.length u1, .slice e2 A.a.C.length u2, .int .i64 A.n.e, .int .i64 A.n.b, .int .i64 A.n.k, .slice e3 A.n.M.length u3, .slice e4 A.n.C.length u4, .int .i64 A.s0, .int .i64 A.s1]) (.agg #[.int .i64 A.ep, .int .i64 A.a.e, .int .i64 A.a.b, .int .i64 A.a.k, .slice b1 A.a.M.length p1, .slice b2 A.a.C.length p2, .int .i64 A.n.e, .int .i64 A.n.b, .int .i64 A.n.k, .slice b3 A.n.M.length p3, .slice b4 A.n.C.length p4, .int .i64 A.s0, .int .i64 A.s1]) w13 ⟨_, _, _, _, rfl, f10a, f10n, HA.out.2.2.1, HA.out.2.2.2.1⟩ ⟨_, _, _, _, rfl, f7a, f7n, HA.out.2.2.1, HA.out.2.2.2.1⟩
      have hee : (A.ep == A.ep) = true := by simp
      have HX := Lib.hid (And.intro h4 (And.intro h7 (And.intro h9 (And.intro h10 (And.intro h11 (And.intro h12 (And.intro h13 (And.intro f7a (And.intro f7n (And.intro f9 (And.intro f10a (And.intro f10n (And.intro f11a (And.intro f11n (And.intro f12a (And.intro f12n (And.intro f13a (And.intro f13n (hb)))))))))))))))))))
      clear h4 h7 h9 h10 h11 h12 h13 f7a f7n f9 f10a f10n f11a f11n f12a f12n f13a f13n hb
      go_wp2_with fail
      refine Calls.mono cS ?_
      rintro ev w14 ⟨rfl, hb2⟩
      clear cS hee d0 c0 d1 c1 d2 c2 d3 c3 d4 c4 d5 c5 d6 c6 d7 c7 d8 c8 d9 c9 d10 c10 d11 c11 d12 c12
      obtain ⟨h4, h7, h9, h10, h11, h12, h13, f7a, f7n, f9, f10a, f10n, f11a, f11n, f12a, f12n, f13a, f13n, hb⟩ := HX.out
      clear HX
      replace hb := hb.trans (hb2.mono hb.size)
      have HB := Lib.hid hb
      clear hb2 h4 h7 h9 h10 h11 h12 h13 f7a f7n f9 f10a f10n f11a f11n f12a f12n f13a f13n hb
      go_wp2_with fail
      go_ret
      exact ⟨ret_bool rfl, HB.out⟩
    · clear HC
      have hYA : Y = A := HYZ.out.1.trans (do_elder A S.ep (by omega))
      have hZe := HYZ.out.2.trans (do_newest A A.ep (by omega) (by have := HI.out.2.2.1; omega) (by omega))
      have zz1 : (A.ep == S.ep) = false := by simp; omega
      have zz2 : (A.ep == S.ep + 1) = true := by simp; omega
      have zz3 : (A.n.e == A.ep) = true := by simp; omega
      have zz4 : (Z.a.e == A.ep) = true := by rw [hZe]; simp; omega
      have zz5 : (Z.ep == A.ep) = true := by rw [hZe]; simp
      have hS0 := HI.out.2.2.1
      subst hYA
      have d0 := cell_atD h10 0 (v := .int .i64 Y.ep) rfl
      have d1 := cell_atD h10 1 (v := .int .i64 Y.a.e) rfl
      have d2 := cell_atD h10 2 (v := .int .i64 Y.a.b) rfl
      have d3 := cell_atD h10 3 (v := .int .i64 Y.a.k) rfl
      have d4 := cell_atD h10 4 (v := .slice e1 Y.a.M.length u1) rfl
      have d5 := cell_atD h10 5 (v := .slice e2 Y.a.C.length u2) rfl
      have d6 := cell_atD h10 6 (v := .int .i64 Y.n.e) rfl
      have d7 := cell_atD h10 7 (v := .int .i64 Y.n.b) rfl
      have d8 := cell_atD h10 8 (v := .int .i64 Y.n.k) rfl
      have d9 := cell_atD h10 9 (v := .slice e3 Y.n.M.length u3) rfl
      have d10 := cell_atD h10 10 (v := .slice e4 Y.n.C.length u4) rfl
      have d11 := cell_atD h10 11 (v := .int .i64 Y.s0) rfl
      have d12 := cell_atD h10 12 (v := .int .i64 Y.s1) rfl
      have c0 := cell_atD h11 0 (v := .int .i64 Y.ep) rfl
      have c1 := cell_atD h11 1 (v := .int .i64 Y.a.e) rfl
      have c2 := cell_atD h11 2 (v := .int .i64 Y.a.b) rfl
      have c3 := cell_atD h11 3 (v := .int .i64 Y.a.k) rfl
      have c4 := cell_atD h11 4 (v := .slice g1 Y.a.M.length v1) rfl
      have c5 := cell_atD h11 5 (v := .slice g2 Y.a.C.length v2) rfl
      have c6 := cell_atD h11 6 (v := .int .i64 Y.n.e) rfl
      have c7 := cell_atD h11 7 (v := .int .i64 Y.n.b) rfl
      have c8 := cell_atD h11 8 (v := .int .i64 Y.n.k) rfl
      have c9 := cell_atD h11 9 (v := .slice g3 Y.n.M.length v3) rfl
      have c10 := cell_atD h11 10 (v := .slice g4 Y.n.C.length v4) rfl
      have c11 := cell_atD h11 11 (v := .int .i64 Y.s0) rfl
      have c12 := cell_atD h11 12 (v := .int .i64 Y.s1) rfl
      have m0 := cell_atD h12 0 (v := .int .i64 Y.ep) rfl
      have m1 := cell_atD h12 1 (v := .int .i64 Y.a.e) rfl
      have m2 := cell_atD h12 2 (v := .int .i64 Y.a.b) rfl
      have m3 := cell_atD h12 3 (v := .int .i64 Y.a.k) rfl
      have m4 := cell_atD h12 4 (v := .slice i1 Y.a.M.length z1) rfl
      have m5 := cell_atD h12 5 (v := .slice i2 Y.a.C.length z2) rfl
      have m6 := cell_atD h12 6 (v := .int .i64 Y.n.e) rfl
      have m7 := cell_atD h12 7 (v := .int .i64 Y.n.b) rfl
      have m8 := cell_atD h12 8 (v := .int .i64 Y.n.k) rfl
      have m9 := cell_atD h12 9 (v := .slice i3 Y.n.M.length z3) rfl
      have m10 := cell_atD h12 10 (v := .slice i4 Y.n.C.length z4) rfl
      have m11 := cell_atD h12 11 (v := .int .i64 Y.s0) rfl
      have m12 := cell_atD h12 12 (v := .int .i64 Y.s1) rfl
      have x0 := cell_atD h7 0 (v := .int .i64 S.ep) rfl
      have k0 := cell_atD h13 0 (v := .int .i64 Z.ep) rfl
      have k1 := cell_atD h13 1 (v := .int .i64 Z.a.e) rfl
      have cS := dsame Y (.agg #[.int .i64 Y.ep, .int .i64 Y.a.e, .int .i64 Y.a.b, .int .i64 Y.a.k, .slice i1 Y.a.M.length z1, .slice i2 Y.a.C.length z2, .int .i64 Y.n.e, .int .i64 Y.n.b, .int .i64 Y.n.k, .slice i3 Y.n.M.length z3, .slice i4 Y.n.C.length z4, .int .i64 Y.s0, .int .i64 Y.s1]) (.agg #[.int .i64 Y.ep, .int .i64 Y.a.e, .int .i64 Y.a.b, .int .i64 Y.a.k, .slice g1 Y.a.M.length v1, .slice g2 Y.a.C.length v2, .int .i64 Y.n.e, .int .i64 Y.n.b, .int .i64 Y.n.k, .slice g3 Y.n.M.length v3, .slice g4 Y.n.C.length v4, .int .i64 Y.s0, .int .i64 Y.s1]) w13 ⟨_, _, _, _, rfl, f12a, f12n, HA.out.2.2.1, HA.out.2.2.2.1⟩ ⟨_, _, _, _, rfl, f11a, f11n, HA.out.2.2.1, HA.out.2.2.2.1⟩
      have HX := Lib.hid (And.intro h4 (And.intro h7 (And.intro h9 (And.intro h10 (And.intro h11 (And.intro h12 (And.intro h13 (And.intro f7a (And.intro f7n (And.intro f9 (And.intro f10a (And.intro f10n (And.intro f11a (And.intro f11n (And.intro f12a (And.intro f12n (And.intro f13a (And.intro f13n (hb)))))))))))))))))))
      clear h4 h7 h9 h10 h11 h12 h13 f7a f7n f9 f10a f10n f11a f11n f12a f12n f13a f13n hb
      clear hZe he1 he2
      go_wp2_with fail
      refine Calls.mono cS ?_
      rintro ev w14 ⟨rfl, hb2⟩
      obtain ⟨h4, h7, h9, h10, h11, h12, h13, f7a, f7n, f9, f10a, f10n, f11a, f11n, f12a, f12n, f13a, f13n, hb⟩ := HX.out
      clear HX
      replace h10 := below_at hb2 (lt_heap h10) h10
      replace h11 := below_at hb2 (lt_heap h11) h11
      replace h7 := below_at hb2 (lt_heap h7) h7
      replace h13 := below_at hb2 (lt_heap h13) h13
      replace hb := hb.trans (hb2.mono hb.size)
      clear cS x0 k0 k1 d0 c0 m0 d1 c1 m1 d2 c2 m2 d3 c3 m3 d4 c4 m4 d5 c5 m5 d6 c6 m6 d7 c7 m7 d8 c8 m8 d9 c9 m9 d10 c10 m10 d11 c11 m11 d12 c12 m12
      have d0 := cell_atD h10 0 (v := .int .i64 Y.ep) rfl
      have d1 := cell_atD h10 1 (v := .int .i64 Y.a.e) rfl
      have d2 := cell_atD h10 2 (v := .int .i64 Y.a.b) rfl
      have d3 := cell_atD h10 3 (v := .int .i64 Y.a.k) rfl
      have d4 := cell_atD h10 4 (v := .slice e1 Y.a.M.length u1) rfl
      have d5 := cell_atD h10 5 (v := .slice e2 Y.a.C.length u2) rfl
      have d6 := cell_atD h10 6 (v := .int .i64 Y.n.e) rfl
      have d7 := cell_atD h10 7 (v := .int .i64 Y.n.b) rfl
      have d8 := cell_atD h10 8 (v := .int .i64 Y.n.k) rfl
      have d9 := cell_atD h10 9 (v := .slice e3 Y.n.M.length u3) rfl
      have d10 := cell_atD h10 10 (v := .slice e4 Y.n.C.length u4) rfl
      have d11 := cell_atD h10 11 (v := .int .i64 Y.s0) rfl
      have d12 := cell_atD h10 12 (v := .int .i64 Y.s1) rfl
      have c0 := cell_atD h11 0 (v := .int .i64 Y.ep) rfl
      have c1 := cell_atD h11 1 (v := .int .i64 Y.a.e) rfl
      have c2 := cell_atD h11 2 (v := .int .i64 Y.a.b) rfl
      have c3 := cell_atD h11 3 (v := .int .i64 Y.a.k) rfl
      have c4 := cell_atD h11 4 (v := .slice g1 Y.a.M.length v1) rfl
      have c5 := cell_atD h11 5 (v := .slice g2 Y.a.C.length v2) rfl
      have c6 := cell_atD h11 6 (v := .int .i64 Y.n.e) rfl
      have c7 := cell_atD h11 7 (v := .int .i64 Y.n.b) rfl
      have c8 := cell_atD h11 8 (v := .int .i64 Y.n.k) rfl
      have c9 := cell_atD h11 9 (v := .slice g3 Y.n.M.length v3) rfl
      have c10 := cell_atD h11 10 (v := .slice g4 Y.n.C.length v4) rfl
      have c11 := cell_atD h11 11 (v := .int .i64 Y.s0) rfl
      have c12 := cell_atD h11 12 (v := .int .i64 Y.s1) rfl
      have x0 := cell_atD h7 0 (v := .int .i64 S.ep) rfl
      have k0 := cell_atD h13 0 (v := .int .i64 Z.ep) rfl
      have k1 := cell_atD h13 1 (v := .int .i64 Z.a.e) rfl
      have HB := Lib.hid hb
      clear hb2 h4 h7 h9 h10 h11 h12 h13 f7a f7n f9 f10a f10n f11a f11n f12a f12n f13a f13n hb
      go_wp2_with fail
      go_ret
      exact ⟨ret_bool rfl, HB.out⟩
end Go.Proofs.Ytfgmeeponipjeaa
