/-
  The law of which logs are as new, and where a command is: walked.
-/
import Derived.Test.YtfgmeeponipjeaaNrb
namespace Go.Proofs.Ytfgmeeponipjeaa
open Go.RowKit
set_option linter.unusedVariables false
set_option linter.unusedSimpArgs false

def confShR : Sh := .two (.int .i64) (.two (.int .i64) (.two (.int .i64) (.two (.slice (.int .i64)) (.two (.slice (.int .i64)) .unit))))
def entShR : Sh := .two (.int .i64) (.two (.two (.int .i64) (.two confShR .unit)) .unit)
theorem fits_intsR {w : World} {a : Option Addr} {len cap : Nat} (h : Fits w (.slice (.int .i64)) [.slice a len cap]) : ∃ l : List Int, l.length = len ∧ SR w (.slice a len cap) 1 l.length (nCells l) := by
  obtain ⟨h1, h2, h3⟩ := h.slice
  rcases h3 with h0 | ⟨b, off, rfl, hb, he⟩
  · subst h0
    exact ⟨[], rfl, a, cap, rfl, h1, h2, rfl, .inl rfl⟩
  · refine ⟨(List.range len).map fun i => match w.cell? ⟨b, off + i, none⟩ with | some (.int _ z) => z | _ => 0, by simp, ?_⟩
    refine ⟨_, cap, by simp, by simpa using h1, h2, by simp [nCells], .inr ⟨b, off, rfl, hb, fun j u hj => ?_⟩⟩
    have hjl : j < len := by
      have := (List.getElem?_eq_some_iff.1 hj).1
      simpa [nCells] using this
    obtain ⟨ys, hl, hc, z, rfl, -⟩ := he j hjl
    have hcell : w.cell? ⟨b, off + j, none⟩ = some (.int .i64 z) := by simpa [Sh.size] using hc 0 _ rfl
    rw [hcell, ← hj]
    simp [nCells, hjl, hcell]
theorem fits_en {w : World} {ys : List Value} (h : Fits w entShR ys) : ∃ r : EN, ys = r.cells ∧ r.at_ w := by
  obtain ⟨_, _, rfl, ⟨t, rfl, -⟩, _, _, rfl, h, rfl⟩ := h
  obtain ⟨x, y, rfl, ⟨z, rfl, -⟩, x1, y1, rfl, h1, rfl⟩ := h
  obtain ⟨_, _, rfl, ⟨e, rfl, -⟩, _, _, rfl, ⟨b, rfl, -⟩, _, _, rfl, ⟨k, rfl, -⟩, x3, _, rfl, h3, x4, _, rfl, h4, rfl⟩ := h1
  obtain ⟨ma, ml, mc, rfl, -⟩ := id h3
  obtain ⟨ca, cl, cc, rfl, -⟩ := id h4
  obtain ⟨M, rfl, hM⟩ := fits_intsR h3
  obtain ⟨C, rfl, hC⟩ := fits_intsR h4
  exact ⟨⟨t, z, ⟨e, b, k, M, C⟩, ma, mc, ca, cc⟩, rfl, hM, hC⟩
theorem fits_two {w : World} {ys : List Value} (h : Fits w (Sh.rep (.int .i64) 2) ys) : ∃ a b : Int, ys = [.int .i64 a, .int .i64 b] := by
  obtain ⟨_, _, rfl, ⟨a, rfl, -⟩, _, _, rfl, ⟨b, rfl, -⟩, rfl⟩ := h
  exact ⟨a, b, rfl⟩
theorem elts_row {w : World} {N : Nat} {v : Value} {es : List EN} (h : w.ownsRow N 43 7 v es.length (enCells es)) : Elts w EN.cells 7 v es := by
  obtain ⟨a, cap, rfl, h1, h2, h3, h4⟩ := SR.owns h
  refine ⟨a, cap, rfl, h1, h2, h4.imp id ?_⟩
  rintro ⟨b, off, rfl, hb, hc⟩
  refine ⟨b, off, rfl, hb, fun j e hj k u hk => ?_⟩
  have hk7 : k < 7 := by
    have := (List.getElem?_eq_some_iff.1 hk).1
    simpa [EN.cells] using this
  have := hc (j * 7 + k) u (enCells_get es j e hj k u hk hk7)
  rwa [← Nat.add_assoc] at this
/-- the place of the first that holds it, from a place on -/
def fnd (x : Int) (c : CF) : List EN → Nat → Int
  | [], _ => 0
  | e :: l, o => if isK x c e then (o : Int) + 1 else fnd x c l (o + 1)
theorem fnd_ix (x : Int) (c : CF) : ∀ (l : List EN) (o : Nat), fnd x c l o = match l.findIdx? (isK x c) with | some k => (o : Int) + k + 1 | none => 0
  | [], o => rfl
  | e :: l, o => by
    rw [fnd, fnd_ix x c l (o + 1), List.findIdx?_cons]
    cases isK x c e
    · simp only [Bool.false_eq_true, if_false]
      cases l.findIdx? (isK x c) with
      | none => rfl
      | some k => simp; omega
    · simp
theorem fnd_has (x : Int) (c : CF) (l : List EN) : fnd x c l 0 = if ixE x c l < 0 then 0 else ixE x c l + 1 := by
  rw [fnd_ix]
  unfold ixE
  cases l.findIdx? (isK x c) with
  | none => rfl
  | some k =>
    simp
    omega
theorem fnd_at {x : Int} {c : CF} {es : List EN} {i : Nat} {e : EN} (h : es[i]? = some e) : fnd x c (es.drop i) i = if isK x c e then (i : Int) + 1 else fnd x c (es.drop (i + 1)) (i + 1) := by
  obtain ⟨hi, rfl⟩ := List.getElem?_eq_some_iff.1 h
  rw [List.drop_eq_getElem_cons hi, fnd]
theorem ix_alike {x : Int} {c : CF} {es fs : List EN} (h : fs.map EN.k = es.map EN.k) : ixE x c fs = ixE x c es := by
  have hk : ∀ l : List EN, l.findIdx? (isK x c) = (l.map EN.k).findIdx? (fun k => k.2.1 == x && sameC k.2.2 c) := by
    intro l
    rw [List.findIdx?_map]
    rfl
  unfold ixE
  rw [hk, hk, h]
theorem sameE_one (e : EN) (x : Int) (c : CF) : sameE 1 e.x e.c 1 x c = isK x c e := by simp [sameE, isK]
/-- what is known behind the log's making -/
structure F4 (w w4 : World) (v : Value) (es : List EN) (g : Nat) (v' : Value) (fs : List EN) : Prop where
  el : Elts w4 EN.cells 7 v es
  at_ : ∀ e ∈ es, e.at_ w4
  log : LogE w4 g g v' fs
  alike : fs.map EN.k = es.map EN.k
  below : Below w.heap.size w w4
  six : es.length ≤ 6
theorem sameN (e : EN) (x : Int) (c : CF) (d1 d2 : Option Addr) (s1 s2 : Nat) (N : Nat) (w : World) (hW : N ≤ w.heap.size) (he : e.at_ w) (hc : CFat c w (.slice d1 c.M.length s1) (.slice d2 c.C.length s2)) :
    Calls Try.prog 14 #[.agg #[.int .i64 1, .int .i64 e.x, .int .i64 e.c.e, .int .i64 e.c.b, .int .i64 e.c.k, .slice e.a1 e.c.M.length e.q1, .slice e.a2 e.c.C.length e.q2], .agg #[.int .i64 1, .int .i64 x, .int .i64 c.e, .int .i64 c.b, .int .i64 c.k, .slice d1 c.M.length s1, .slice d2 c.C.length s2]] w fun ev w' => ev = .returned (.bool (isK x c e)) ∧ Stays N w w' := by
  refine (rsameE 1 e.x e.c 1 x c e.a1 e.a2 d1 d2 e.q1 e.q2 s1 s2 w he hc).mono ?_
  rintro ev w' ⟨rfl, hb⟩
  exact ⟨by rw [sameE_one], stays_of hW hb⟩
def StP (w5 wx : World) : Prop := ∃ (x : Int) (cc : CF), ∃ d1 s1 d2 s2, wx.heap[w5.heap.size]? = some (.cells #[.int .i64 x, .int .i64 cc.e, .int .i64 cc.b, .int .i64 cc.k, .slice d1 cc.M.length s1, .slice d2 cc.C.length s2] 27) ∧ CFat cc wx (.slice d1 cc.M.length s1) (.slice d2 cc.C.length s2) ∧ Below w5.heap.size w5 wx
theorem F4.drewN {w w4 : World} {v v' : Value} {es fs : List EN} {g : Nat} (h : F4 w w4 v es g v' fs) (q : Nat) : F4 w (w4.drewN q) v es g v' fs :=
  have hb : Below w4.heap.size w4 (w4.drewN q) := below_drewN' (Below.refl _ _) q
  ⟨h.el.below hb, fun e he => (h.at_ e he).below hb, h.log.below hb, h.alike, below_drewN' h.below q, h.six⟩
set_option maxHeartbeats 6400000 in
set_option maxRecDepth 100000 in
theorem newer_law (a : Option Addr) (len cap : Nat) (c : Array Value) (which : Int) (w : World) (hf0 : Fits w (.slice entShR) [.slice a len cap]) (hf1 : Fits w (Sh.rep (.int .i64) 2) c.toList) (hwh : (Lit.int .i64 which).wf = true) :
    Calls Try.prog 4 #[.slice a len cap, .agg c, .int .i64 which] w fun e w' => e = .returned (.bool true) ∧ Below w.heap.size w w' := by
  obtain ⟨L0, L1, hc0⟩ := fits_two hf1
  obtain rfl : c = #[.int .i64 L0, .int .i64 L1] := by rw [← Array.toList_inj, hc0]
  clear hc0 hf1
  obtain ⟨rs, hlr, hel, hrs⟩ := fits_rows (c := EN.cells) (good := fun r => r.at_ w) (fun ys h => fits_en h) hf0
  have hx := heap_alloc_self w (.cells #[.int .i64 L0, .int .i64 L1] 28)
  have hb : Below w.heap.size w (w.alloc (.cells #[.int .i64 L0, .int .i64 L1] 28)) := (Below.refl _ _).alloc (Nat.le_refl _) _
  have cN := near16 rs L1 _ _ (hel.below hb) (fun r hr => EN.at_.below (hrs r hr) hb)
  clear hel hrs hf0 hlr
  go_enter Try.func4, Try.ntmps4
  go_upto_region 1 with fail
  generalize w.alloc (.cells #[.int .i64 L0, .int .i64 L1] 28) = w1 at *
  have d0 := cell_atD hx 0 (v := .int .i64 L0) rfl
  have d1 := cell_atD hx 1 (v := .int .i64 L1) rfl
  have HX := Lib.hid (And.intro hx hb)
  clear hx hb
  go_wp2_with fail
  refine Calls.mono cN ?_
  rintro ev w2 ⟨v, es, rfl, hG, h6⟩
  have cW := rnewE es (by omega) w2 v (elts_row hG.1) (fun e he => ⟨(hG.2.1 e he).1, may_short (hG.2.1 e he).1, (hG.2.1 e he).2.at_⟩)
  obtain ⟨ov, oc, rfl⟩ := hG.form
  have HG := Lib.hid (And.intro hG h6)
  clear hG h6 cN d0 d1
  go_wp2_with fail
  refine Calls.mono cW ?_
  rintro ev w3 ⟨v', fs, rfl, hL, hk, hb3⟩
  have hz : w.heap.size ≤ w1.heap.size := HX.out.2.size
  have hf4 : F4 w w3 (.slice ov es.length oc) es w2.heap.size v' fs := ⟨(elts_row HG.out.1.1).below hb3, fun e he => (HG.out.1.2.1 e he).2.at_.below hb3, hL, hk, HX.out.2.trans ((HG.out.1.2.2.mono hz).trans (hb3.mono (Nat.le_trans hz HG.out.1.2.2.size))), HG.out.2⟩
  have hxc := below_at hb3 (Nat.lt_of_lt_of_le (lt_heap HX.out.1) HG.out.1.2.2.size) (below_at HG.out.1.2.2 (lt_heap HX.out.1) HX.out.1)
  obtain ⟨n, hn⟩ : ∃ n, es.length = n := ⟨_, rfl⟩
  have hfn : fs.length = n := by have := congrArg List.length hk; rw [List.length_map, List.length_map] at this; omega
  have h6n : n ≤ 6 := by rw [← hn]; exact HG.out.2
  have cl := rlastE w3 w2.heap.size w2.heap.size v' fs hL (by omega)
  obtain ⟨T, hT⟩ : ∃ T, T = termE fs fs.length := ⟨_, rfl⟩
  rw [← hT, hfn] at cl
  have HF := Lib.hid (And.intro hf4 (And.intro hxc (And.intro hT (And.intro hn hfn))))
  rw [hn]
  clear hL hk hb3 hz hf4 hxc HX HG cW hT hn hfn
  go_wp2_with fail
  refine Calls.mono cl ?_
  rintro ev w4' ⟨rfl, q, rfl⟩
  have hf4 : F4 w (w3.drewN q) (.slice ov es.length oc) es w2.heap.size v' fs := HF.out.1.drewN q
  have hx := HF.out.2.1
  have hx : (w3.drewN q).heap[w.heap.size]? = _ := hx
  have HF2 := Lib.hid (And.intro HF.out.2.2.1 (And.intro HF.out.2.2.2.1 HF.out.2.2.2.2))
  generalize w3.drewN q = w4 at *
  have m15 : bits .and .i64 L0 15 = L0 % 16 := mask_mod L0 4 15 (by decide) (by decide)
  have m7 : bits .and .i64 L1 7 = L1 % 8 := mask_mod L1 3 7 (by decide) (by decide)
  generalize L0 % 16 = X at m15
  generalize L1 % 8 = U at m7
  have d0 := cell_atD hx 0 (v := .int .i64 L0) rfl
  have d1 := cell_atD hx 1 (v := .int .i64 L1) rfl
  have H4 := Lib.hid hf4
  clear hx hf4 cl HF
  go_upto_region 4 with fail
  go_quiet (fail)
  clear d0 d1 m15 m7
  have hf5 := H4.out.drewN nq
  generalize w4.drewN nq = w5 at *
  clear H4
  have hP := heap_alloc_self w5 (.cells #[.int .i64 3, .int .i64 0, .int .i64 0, .int .i64 0, .slice none 0 0, .slice none 0 0] 27)
  have hb56 : Below w5.heap.size w5 (w5.alloc (.cells #[.int .i64 3, .int .i64 0, .int .i64 0, .int .i64 0, .slice none 0 0, .slice none 0 0] 27)) := (Below.refl _ _).alloc (Nat.le_refl _) _
  have HP := Lib.hid (And.intro hf5 (And.intro hP hb56))
  clear hf5 hP hb56
  go_upto_region 7 with fail
  generalize w5.alloc (.cells #[.int .i64 3, .int .i64 0, .int .i64 0, .int .i64 0, .slice none 0 0, .slice none 0 0] 27) = w6 at *
  go_upto_if 36 with fail
  go_cut [] from 37 to 45 (fun wx => StP w5 wx)
  case first =>
    by_cases hn0 : n = 0
    · subst hn0
      have HF := Lib.hid (show StP w5 w6 from ⟨3, CF.z, none, 0, none, 0, HP.out.2.1, ⟨SR.nil_ _ _, SR.nil_ _ _⟩, HP.out.2.2⟩)
      go_wp2_with fail
      go_meet
      exact HF.out
    · have hnp : (0 : Int) < (n : Int) := by omega
      have m255 : bits .and .i64 which 255 = which % 256 := mask_mod which 8 255 (by decide) (by decide)
      have hWm : 0 ≤ which % 256 := by omega
      generalize which % 256 = Wm at m255 hWm
      obtain ⟨m, hm⟩ : ∃ m : Nat, Int.tmod Wm (n : Int) = (m : Int) := ⟨(Int.tmod Wm n).toNat, by rw [Int.toNat_of_nonneg (Int.tmod_nonneg _ hWm)]⟩
      have hmn : (m : Int) < (n : Int) := by rw [← hm]; exact Int.tmod_lt_of_pos _ hnp
      have hm' : m < n := by omega
      obtain ⟨e, hej⟩ : ∃ e, es[m]? = some e := ⟨_, List.getElem?_eq_getElem (by have := HF2.out.2.1; omega)⟩
      have hat := HP.out.1.at_ e (List.mem_of_getElem? hej)
      have hel6 := HP.out.1.el.below HP.out.2.2
      obtain ⟨-, b, off, rfl, hbl, hc⟩ := hel6.at_ hej
      have l1 : w6.cell? ⟨b, off + m * 7 + 1, none⟩ = some (.int .i64 e.x) := hc 1 _ rfl
      have l2 : w6.cell? ⟨b, off + m * 7 + 2, none⟩ = some (.int .i64 e.c.e) := hc 2 _ rfl
      have l3 : w6.cell? ⟨b, off + m * 7 + 3, none⟩ = some (.int .i64 e.c.b) := hc 3 _ rfl
      have l4 : w6.cell? ⟨b, off + m * 7 + 4, none⟩ = some (.int .i64 e.c.k) := hc 4 _ rfl
      have l5 : w6.cell? ⟨b, off + m * 7 + 5, none⟩ = some (.slice e.a1 e.c.M.length e.q1) := hc 5 _ rfl
      have l6 : w6.cell? ⟨b, off + m * 7 + 6, none⟩ = some (.slice e.a2 e.c.C.length e.q2) := hc 6 _ rfl
      have p0 := cell_atD HP.out.2.1 0 (v := .int .i64 3) rfl
      have p1 := cell_atD HP.out.2.1 1 (v := .int .i64 0) rfl
      have p2 := cell_atD HP.out.2.1 2 (v := .int .i64 0) rfl
      have p3 := cell_atD HP.out.2.1 3 (v := .int .i64 0) rfl
      have p4 := cell_atD HP.out.2.1 4 (v := .slice none 0 0) rfl
      have p5 := cell_atD HP.out.2.1 5 (v := .slice none 0 0) rfl
      have fz : ∀ j, w6.frozen? ⟨w5.heap.size, j, none⟩ = false := fun j => by have := HP.out.2.1; simp [World.frozen?, this]
      have g1 : (w6.setCell ⟨w5.heap.size, 0, none⟩ (.int .i64 e.x)).heap[w5.heap.size]? = some (.cells #[.int .i64 e.x, .int .i64 0, .int .i64 0, .int .i64 0, .slice none 0 0, .slice none 0 0] 27) := heap_set_self HP.out.2.1 0 _
      have g2 : ((w6.setCell ⟨w5.heap.size, 0, none⟩ (.int .i64 e.x)).setCell ⟨w5.heap.size, 1, none⟩ (.int .i64 e.c.e)).heap[w5.heap.size]? = some (.cells #[.int .i64 e.x, .int .i64 e.c.e, .int .i64 0, .int .i64 0, .slice none 0 0, .slice none 0 0] 27) := heap_set_self g1 1 _
      have g3 : (((w6.setCell ⟨w5.heap.size, 0, none⟩ (.int .i64 e.x)).setCell ⟨w5.heap.size, 1, none⟩ (.int .i64 e.c.e)).setCell ⟨w5.heap.size, 2, none⟩ (.int .i64 e.c.b)).heap[w5.heap.size]? = some (.cells #[.int .i64 e.x, .int .i64 e.c.e, .int .i64 e.c.b, .int .i64 0, .slice none 0 0, .slice none 0 0] 27) := heap_set_self g2 2 _
      have g4 : ((((w6.setCell ⟨w5.heap.size, 0, none⟩ (.int .i64 e.x)).setCell ⟨w5.heap.size, 1, none⟩ (.int .i64 e.c.e)).setCell ⟨w5.heap.size, 2, none⟩ (.int .i64 e.c.b)).setCell ⟨w5.heap.size, 3, none⟩ (.int .i64 e.c.k)).heap[w5.heap.size]? = some (.cells #[.int .i64 e.x, .int .i64 e.c.e, .int .i64 e.c.b, .int .i64 e.c.k, .slice none 0 0, .slice none 0 0] 27) := heap_set_self g3 3 _
      have g5 : (((((w6.setCell ⟨w5.heap.size, 0, none⟩ (.int .i64 e.x)).setCell ⟨w5.heap.size, 1, none⟩ (.int .i64 e.c.e)).setCell ⟨w5.heap.size, 2, none⟩ (.int .i64 e.c.b)).setCell ⟨w5.heap.size, 3, none⟩ (.int .i64 e.c.k)).setCell ⟨w5.heap.size, 4, none⟩ (.slice e.a1 e.c.M.length e.q1)).heap[w5.heap.size]? = some (.cells #[.int .i64 e.x, .int .i64 e.c.e, .int .i64 e.c.b, .int .i64 e.c.k, .slice e.a1 e.c.M.length e.q1, .slice none 0 0] 27) := heap_set_self g4 4 _
      have g6 : ((((((w6.setCell ⟨w5.heap.size, 0, none⟩ (.int .i64 e.x)).setCell ⟨w5.heap.size, 1, none⟩ (.int .i64 e.c.e)).setCell ⟨w5.heap.size, 2, none⟩ (.int .i64 e.c.b)).setCell ⟨w5.heap.size, 3, none⟩ (.int .i64 e.c.k)).setCell ⟨w5.heap.size, 4, none⟩ (.slice e.a1 e.c.M.length e.q1)).setCell ⟨w5.heap.size, 5, none⟩ (.slice e.a2 e.c.C.length e.q2)).heap[w5.heap.size]? = some (.cells #[.int .i64 e.x, .int .i64 e.c.e, .int .i64 e.c.b, .int .i64 e.c.k, .slice e.a1 e.c.M.length e.q1, .slice e.a2 e.c.C.length e.q2] 27) := heap_set_self g5 5 _
      have hbS : Below w5.heap.size w5 ((((((w6.setCell ⟨w5.heap.size, 0, none⟩ (.int .i64 e.x)).setCell ⟨w5.heap.size, 1, none⟩ (.int .i64 e.c.e)).setCell ⟨w5.heap.size, 2, none⟩ (.int .i64 e.c.b)).setCell ⟨w5.heap.size, 3, none⟩ (.int .i64 e.c.k)).setCell ⟨w5.heap.size, 4, none⟩ (.slice e.a1 e.c.M.length e.q1)).setCell ⟨w5.heap.size, 5, none⟩ (.slice e.a2 e.c.C.length e.q2)) := ((((((HP.out.2.2.setCell (p := ⟨w5.heap.size, 0, none⟩) (Nat.le_refl _) _).setCell (p := ⟨w5.heap.size, 1, none⟩) (Nat.le_refl _) _).setCell (p := ⟨w5.heap.size, 2, none⟩) (Nat.le_refl _) _).setCell (p := ⟨w5.heap.size, 3, none⟩) (Nat.le_refl _) _).setCell (p := ⟨w5.heap.size, 4, none⟩) (Nat.le_refl _) _).setCell (p := ⟨w5.heap.size, 5, none⟩) (Nat.le_refl _) _)
      have HF := Lib.hid (show StP w5 ((((((w6.setCell ⟨w5.heap.size, 0, none⟩ (.int .i64 e.x)).setCell ⟨w5.heap.size, 1, none⟩ (.int .i64 e.c.e)).setCell ⟨w5.heap.size, 2, none⟩ (.int .i64 e.c.b)).setCell ⟨w5.heap.size, 3, none⟩ (.int .i64 e.c.k)).setCell ⟨w5.heap.size, 4, none⟩ (.slice e.a1 e.c.M.length e.q1)).setCell ⟨w5.heap.size, 5, none⟩ (.slice e.a2 e.c.C.length e.q2)) from ⟨e.x, e.c, e.a1, e.q1, e.a2, e.q2, g6, CFat.below hat hbS, hbS⟩)
      clear g1 g2 g3 g4 g5 g6 hbS hat hel6 hc hej
      go_wp2_with fail
      go_meet
      exact HF.out
  case rest =>
    obtain ⟨x, cc, d1, s1, d2, s2, hP, hcc, hb5c⟩ := hcut
    have H5 := Lib.hid HP.out.1
    have HC := Lib.hid (And.intro hP (And.intro hcc hb5c))
    have hn6 : n ≤ 6 := h6n
    clear hP hcc hb5c HP
    have HS := Lib.hid (show (0 : Int) = fnd x cc (es.drop n) n by rw [← HF2.out.2.1, List.drop_length]; rfl)
    go_wp2_with fail
    go_loopw [13, 15] (fun fv iv wr => ∃ (j : Nat) (F : Int), j ≤ n ∧ fv = .int .i64 F ∧ iv = .int .i64 ((j : Int) - 1) ∧ Hid (F = fnd x cc (es.drop j) j) ∧ Hid (Below wc.heap.size wc wr)) (fun _ i _ => (intOf i + 1).toNat)
    case atStart => exact ⟨n, 0, Nat.le_refl _, rfl, rfl, HS, Lib.hid (Below.refl _ _)⟩
    case round =>
      obtain ⟨j, F, hj, rfl, hiv, HFn, HB⟩ := hrel
      clear HS
      rcases j with _ | k
      · obtain rfl := hiv.trans (show (Value.int .i64 (((0 : Nat) : Int) - 1)) = .int .i64 (-1) by simp)
        have hb5r : Below w5.heap.size w5 wr := HC.out.2.2.trans (HB.out.mono HC.out.2.2.size)
        go_wp2_with fail
        refine Calls.mono (awake16 _) ?_
        rintro ev wa ⟨rfl, hba⟩
        have hb5a := hb5r.trans (hba.mono hb5r.size)
        have hbw : Below w.heap.size w wa := H5.out.below.trans (hb5a.mono H5.out.below.size)
        have hLa := H5.out.log.below hb5a
        have hPa := below_at hba (Nat.lt_of_lt_of_le (lt_heap HC.out.1) HB.out.size) (below_at HB.out (lt_heap HC.out.1) HC.out.1)
        have hca := CFat.below (CFat.below HC.out.2.1 HB.out) hba
        have hfn := HF2.out.2.2
        have c1 := rnewerE X U wa _ _ v' fs hLa (by omega)
        have c2 := fun q => rnewerE (n : Int) T (wa.drewN q) _ _ v' fs (hLa.drewN q) (by omega)
        have c3 := fun q => rhasE x cc d1 d2 s1 s2 (wa.drewN q) _ _ v' fs (hLa.drewN q) (by omega) (CFat.below hca (below_drewN' (Below.refl _ _) q))
        rw [← HF2.out.1, hfn] at c1
        rw [← HF2.out.1, hfn] at c2
        have hF : F = (if ixE x cc fs < 0 then 0 else ixE x cc fs + 1) := by rw [ix_alike H5.out.alike, ← fnd_has]; exact HFn.out
        rw [← hF] at c3
        have hTT : (decide (T > T) || (T == T && decide ((n : Int) ≥ (n : Int)))) = true := by simp
        rw [hTT] at c2
        have hpq : ∀ q, (wa.drewN q).heap[w5.heap.size]? = some _ := fun q => hPa
        have HE := Lib.hid (And.intro hbw hpq)
        clear hb5r hba hb5a hbw hLa hPa hca hfn hF hTT hpq HB HFn HF2 H5 HC hj
        rcases h1 : decide (U > T)
        · have g1 : ¬ (U > T) := by simpa using h1
          rcases h2 : U == T
          · rw [h1, h2] at c1
            simp only [Bool.false_and, Bool.or_false, Bool.false_or] at c1
            go_wp2_with fail
            refine Calls.mono c1 ?_
            rintro ev wb ⟨rfl, q, rfl⟩
            go_wp2_with fail
            refine Calls.mono (c2 q) ?_
            rintro ev wb ⟨rfl, q2, rfl⟩
            rw [drewN_moreR]
            have p0 := cell_atD (HE.out.2 (q + q2)) 0 (v := .int .i64 x) rfl
            have p1 := cell_atD (HE.out.2 (q + q2)) 1 (v := .int .i64 cc.e) rfl
            have p2 := cell_atD (HE.out.2 (q + q2)) 2 (v := .int .i64 cc.b) rfl
            have p3 := cell_atD (HE.out.2 (q + q2)) 3 (v := .int .i64 cc.k) rfl
            have p4 := cell_atD (HE.out.2 (q + q2)) 4 (v := .slice d1 cc.M.length s1) rfl
            have p5 := cell_atD (HE.out.2 (q + q2)) 5 (v := .slice d2 cc.C.length s2) rfl
            go_wp2_with fail
            refine Calls.mono (c3 _) ?_
            rintro ev wb ⟨rfl, hb2⟩
            have HZ := Lib.hid ((below_drewN' HE.out.1 (q + q2)).trans (hb2.mono HE.out.1.size))
            clear hb2 p0 p1 p2 p3 p4 p5
            go_wp2_with fail
            go_ret
            exact ⟨ret_bool rfl, HZ.out⟩
          · rcases h3 : decide (X ≥ (n : Int))
            · have g3 : ¬ (X ≥ (n : Int)) := by simpa using h3
              rw [h1, h2, h3] at c1
              simp only [Bool.false_or, Bool.true_and] at c1
              go_wp2_with fail
              refine Calls.mono c1 ?_
              rintro ev wb ⟨rfl, q, rfl⟩
              go_wp2_with fail
              refine Calls.mono (c2 q) ?_
              rintro ev wb ⟨rfl, q2, rfl⟩
              rw [drewN_moreR]
              have p0 := cell_atD (HE.out.2 (q + q2)) 0 (v := .int .i64 x) rfl
              have p1 := cell_atD (HE.out.2 (q + q2)) 1 (v := .int .i64 cc.e) rfl
              have p2 := cell_atD (HE.out.2 (q + q2)) 2 (v := .int .i64 cc.b) rfl
              have p3 := cell_atD (HE.out.2 (q + q2)) 3 (v := .int .i64 cc.k) rfl
              have p4 := cell_atD (HE.out.2 (q + q2)) 4 (v := .slice d1 cc.M.length s1) rfl
              have p5 := cell_atD (HE.out.2 (q + q2)) 5 (v := .slice d2 cc.C.length s2) rfl
              go_wp2_with fail
              refine Calls.mono (c3 _) ?_
              rintro ev wb ⟨rfl, hb2⟩
              have HZ := Lib.hid ((below_drewN' HE.out.1 (q + q2)).trans (hb2.mono HE.out.1.size))
              clear hb2 p0 p1 p2 p3 p4 p5
              go_wp2_with fail
              go_ret
              exact ⟨ret_bool rfl, HZ.out⟩
            · have g3 : X ≥ (n : Int) := by simpa using h3
              rw [h1, h2, h3] at c1
              simp only [Bool.false_or, Bool.true_and] at c1
              go_wp2_with fail
              refine Calls.mono c1 ?_
              rintro ev wb ⟨rfl, q, rfl⟩
              go_wp2_with fail
              refine Calls.mono (c2 q) ?_
              rintro ev wb ⟨rfl, q2, rfl⟩
              rw [drewN_moreR]
              have p0 := cell_atD (HE.out.2 (q + q2)) 0 (v := .int .i64 x) rfl
              have p1 := cell_atD (HE.out.2 (q + q2)) 1 (v := .int .i64 cc.e) rfl
              have p2 := cell_atD (HE.out.2 (q + q2)) 2 (v := .int .i64 cc.b) rfl
              have p3 := cell_atD (HE.out.2 (q + q2)) 3 (v := .int .i64 cc.k) rfl
              have p4 := cell_atD (HE.out.2 (q + q2)) 4 (v := .slice d1 cc.M.length s1) rfl
              have p5 := cell_atD (HE.out.2 (q + q2)) 5 (v := .slice d2 cc.C.length s2) rfl
              go_wp2_with fail
              refine Calls.mono (c3 _) ?_
              rintro ev wb ⟨rfl, hb2⟩
              have HZ := Lib.hid ((below_drewN' HE.out.1 (q + q2)).trans (hb2.mono HE.out.1.size))
              clear hb2 p0 p1 p2 p3 p4 p5
              go_wp2_with fail
              go_ret
              exact ⟨ret_bool rfl, HZ.out⟩
        · have g1 : U > T := by simpa using h1
          rw [h1] at c1
          simp only [Bool.true_or] at c1
          go_wp2_with fail
          refine Calls.mono c1 ?_
          rintro ev wb ⟨rfl, q, rfl⟩
          go_wp2_with fail
          refine Calls.mono (c2 q) ?_
          rintro ev wb ⟨rfl, q2, rfl⟩
          rw [drewN_moreR]
          have p0 := cell_atD (HE.out.2 (q + q2)) 0 (v := .int .i64 x) rfl
          have p1 := cell_atD (HE.out.2 (q + q2)) 1 (v := .int .i64 cc.e) rfl
          have p2 := cell_atD (HE.out.2 (q + q2)) 2 (v := .int .i64 cc.b) rfl
          have p3 := cell_atD (HE.out.2 (q + q2)) 3 (v := .int .i64 cc.k) rfl
          have p4 := cell_atD (HE.out.2 (q + q2)) 4 (v := .slice d1 cc.M.length s1) rfl
          have p5 := cell_atD (HE.out.2 (q + q2)) 5 (v := .slice d2 cc.C.length s2) rfl
          go_wp2_with fail
          refine Calls.mono (c3 _) ?_
          rintro ev wb ⟨rfl, hb2⟩
          have HZ := Lib.hid ((below_drewN' HE.out.1 (q + q2)).trans (hb2.mono HE.out.1.size))
          clear hb2 p0 p1 p2 p3 p4 p5
          go_wp2_with fail
          go_ret
          exact ⟨ret_bool rfl, HZ.out⟩
      · obtain rfl := hiv.trans (show (Value.int .i64 (((k + 1 : Nat) : Int) - 1)) = .int .i64 (k : Int) by congr 1; omega)
        have hkn : k < n := by omega
        obtain ⟨e, hej⟩ : ∃ e, es[k]? = some e := ⟨_, List.getElem?_eq_getElem (by have := HF2.out.2.1; omega)⟩
        have hb5r : Below w5.heap.size w5 wr := HC.out.2.2.trans (HB.out.mono HC.out.2.2.size)
        have hat := EN.at_.below (H5.out.at_ e (List.mem_of_getElem? hej)) hb5r
        have hcr := CFat.below HC.out.2.1 HB.out
        obtain ⟨-, b, off, rfl, hbl, hc⟩ := (H5.out.el.below hb5r).at_ hej
        have l1 : wr.cell? ⟨b, off + k * 7 + 1, none⟩ = some (.int .i64 e.x) := hc 1 _ rfl
        have l2 : wr.cell? ⟨b, off + k * 7 + 2, none⟩ = some (.int .i64 e.c.e) := hc 2 _ rfl
        have l3 : wr.cell? ⟨b, off + k * 7 + 3, none⟩ = some (.int .i64 e.c.b) := hc 3 _ rfl
        have l4 : wr.cell? ⟨b, off + k * 7 + 4, none⟩ = some (.int .i64 e.c.k) := hc 4 _ rfl
        have l5 : wr.cell? ⟨b, off + k * 7 + 5, none⟩ = some (.slice e.a1 e.c.M.length e.q1) := hc 5 _ rfl
        have l6 : wr.cell? ⟨b, off + k * 7 + 6, none⟩ = some (.slice e.a2 e.c.C.length e.q2) := hc 6 _ rfl
        have hPr := below_at HB.out (lt_heap HC.out.1) HC.out.1
        have p0 := cell_atD hPr 0 (v := .int .i64 x) rfl
        have p1 := cell_atD hPr 1 (v := .int .i64 cc.e) rfl
        have p2 := cell_atD hPr 2 (v := .int .i64 cc.b) rfl
        have p3 := cell_atD hPr 3 (v := .int .i64 cc.k) rfl
        have p4 := cell_atD hPr 4 (v := .slice d1 cc.M.length s1) rfl
        have p5 := cell_atD hPr 5 (v := .slice d2 cc.C.length s2) rfl
        have hpl : w5.heap.size < wr.heap.size := lt_heap hPr
        obtain ⟨N0, hN0⟩ : ∃ N0, wr.heap.size = N0 := ⟨_, rfl⟩
        have hNW : N0 ≤ wr.heap.size := by omega
        have hstep := fnd_at (x := x) (c := cc) hej
        have cS := fun w' (h' : N0 ≤ w'.heap.size ∧ Below N0 wr w') => sameN e x cc d1 d2 s1 s2 N0 w' h'.1 (hat.below (by rw [hN0]; exact h'.2)) (CFat.below hcr (by rw [hN0]; exact h'.2))
        rw [hN0] at hbl hpl
        have HT := Lib.hid (And.intro hstep hN0)
        clear hat hcr hc hej hb5r hPr hstep hN0
        rcases hr : isK x cc e
        · rw [hr] at cS
          have HR := Lib.hid hr
          clear hr
          go_upto_region 12 with fail
          go_region_held3 (fun w' => N0 ≤ w'.heap.size ∧ Below N0 wr w' ∧ ∀ b o, b < N0 → w'.cell? ⟨b, o, none⟩ = wr.cell? ⟨b, o, none⟩) (first | with_reducible exact keeps_next (by assumption) (by assumption) | exact keepsU_start hNW) (first | (go_at_call 14; (with_reducible refine Calls.mono (cS _ ?hk) ?_); (case hk => exact keepsU_two (by assumption)); rintro ev wz ⟨rfl, hzz⟩))
          rename_i hfin
          have HB2 := Lib.hid (HB.out.trans (hfin.2.1.mono (by have := HB.out.size; have := HT.out.2; omega)))
          have HFn2 := Lib.hid (show F = fnd x cc (es.drop k) k by rw [HT.out.1, HR.out, if_neg (by decide)]; exact HFn.out)
          clear hfin cS hbl hpl p0 p1 p2 p3 p4 p5 l1 l2 l3 l4 l5 l6
          go_wp2_with fail
          go_roundw
          case rel => exact ⟨k, F, by omega, by go_num, by go_num, HFn2, HB2⟩
          case measure => simp [intOf]
        · rw [hr] at cS
          have HR := Lib.hid hr
          clear hr
          go_upto_region 12 with fail
          go_region_held3 (fun w' => N0 ≤ w'.heap.size ∧ Below N0 wr w' ∧ ∀ b o, b < N0 → w'.cell? ⟨b, o, none⟩ = wr.cell? ⟨b, o, none⟩) (first | with_reducible exact keeps_next (by assumption) (by assumption) | exact keepsU_start hNW) (first | (go_at_call 14; (with_reducible refine Calls.mono (cS _ ?hk) ?_); (case hk => exact keepsU_two (by assumption)); rintro ev wz ⟨rfl, hzz⟩))
          rename_i hfin
          have HB2 := Lib.hid (HB.out.trans (hfin.2.1.mono (by have := HB.out.size; have := HT.out.2; omega)))
          have HFn2 := Lib.hid (show ((k : Int) + 1) = fnd x cc (es.drop k) k by rw [HT.out.1, HR.out, if_pos rfl])
          clear hfin cS hbl hpl p0 p1 p2 p3 p4 p5 l1 l2 l3 l4 l5 l6
          go_wp2_with fail
          go_roundw
          case rel => exact ⟨k, ((k : Int) + 1), by omega, by go_num, by go_num, HFn2, HB2⟩
          case measure => simp [intOf]
end Go.Proofs.Ytfgmeeponipjeaa
