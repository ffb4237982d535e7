/-
  A log behind any place: entries from a place on.
-/
import Derived.Test.YtkdmnhmlkcejfaaRgF
namespace Go.Proofs.Ytkdmnhmlkcejfaa
open Go.RowKit
set_option linter.unusedVariables false
set_option linter.unusedSimpArgs false

variable {B T : Int}
/-- entries in a row of the call's own, and their lists -/
def RowG (w : World) (N : Nat) (v : Value) (es : List EN) : Prop := w.ownsRow N 46 7 v es.length (enCells es) ∧ ∀ e ∈ es, e.own N w
theorem RowG.below {w w' : World} {N : Nat} {v : Value} {es : List EN} (h : RowG w N v es) (hb : Below w.heap.size w w') : RowG w' N v es := ⟨owns_below h.1 hb, fun e he => CFO.below (h.2 e he) hb⟩
theorem RowG.only {w w' : World} {N y : Nat} {v : Value} {es : List EN} (h : RowG w N v es) (ho : Only y w w') (hy : w.heap.size ≤ y) : RowG w' N v es := h.below (ho.below hy (Nat.le_refl _))
theorem RowG.app {w w2 : World} {N : Nat} {v v2 : Value} {es : List EN} {e : EN} {o : Obj} (h : RowG w N v es) (he : e.own N w) (own2 : w2.ownsRow N 46 7 v2 (es.length + 1) (enCells es ++ enCells [e])) (hg : (w.alloc o).grownBy w2 v.ownBlock) : RowG w2 N v2 (es ++ [e]) := by
  have hmv : ∀ (b : Nat) (c : Array Value), w.heap[b]? = some (.cells c 3) → w2.heap[b]? = w.heap[b]? := by
    intro b c hb
    refine (hg.block b (by simp; have := lt_heap hb; omega) fun e => ?_).trans (Below.heap_alloc _ _ _ (lt_heap hb))
    obtain ⟨c2, hc2⟩ := own_typeN h.1 e.symm
    rw [hb] at hc2
    injection hc2 with hc2
    injection hc2 with _ h2
    exact absurd h2 (by decide)
  refine ⟨by rw [List.length_append, ← enCells_append]; exact own2, fun x hx => ?_⟩
  rcases List.mem_append.1 hx with q | q
  · exact EN.own.move (h.2 x q) hmv
  · rw [List.mem_singleton.1 q]; exact EN.own.move he hmv
def fromG (B : Int) (ts : List EN) (at_ most : Int) : List (Int × Int × CF) := if B < at_ ∧ at_ ≤ B + ts.length then ((ts.drop (at_ - B - 1).toNat).take most.toNat).map EN.k else []
def FromP (B : Int) (ts : List EN) (at_ most : Int) (w : World) (ev : Ending) (w' : World) : Prop := ∃ v' fs, ev = .returned v' ∧ RowG w' w.heap.size v' fs ∧ fs.map EN.k = fromG B ts at_ most ∧ Below w.heap.size w w'
set_option maxHeartbeats 6400000 in
set_option maxRecDepth 100000 in
theorem rfromG (at_ most : Int) (hat : -1000000 ≤ at_ ∧ at_ ≤ 1000000) (hmo : 0 ≤ most ∧ most ≤ 1000) (w : World) (N g : Nat) (v : Value) (ts : List EN) (h : LogG B T w N g v ts) (hts : ts.length ≤ 300) (hsh : ∀ e ∈ ts, short e.c) :
    Calls Try.prog 13 #[.pointer (some ⟨g, 0, none⟩), .int .i64 at_, .int .i64 most] w (FromP B ts at_ most w) := by
  obtain ⟨i0, hi, hz0, hz1, hz2⟩ := info_parts einfoN
  obtain ⟨hb1, hb2⟩ := h.bd
  obtain ⟨m, hm⟩ : ∃ m, ts.length = m := ⟨_, rfl⟩
  have c1 := rlenG w N g v ts h (by omega)
  rw [hm] at c1 hts
  have hcase : v = .slice none 0 0 ∧ m = 0 ∨ ∃ b c, v = .slice (some ⟨b, 0, none⟩) m c ∧ m ≤ c ∧ c ≤ maxLen := by
    rcases h.row.2 with ⟨e, h0⟩ | ⟨b, c, cur, e, p1, p2, h1, h2, _⟩
    · exact .inl ⟨e, by omega⟩
    · exact .inr ⟨b, c, by rw [e, hm], by omega, h2⟩
  obtain ⟨g0, g1, g2, gf⟩ := h.cells
  have H0 := Lib.hid h
  have HM := Lib.hid hm
  have HSH := Lib.hid hsh
  clear h hm hsh
  by_cases x1 : at_ ≤ B
  · have e : fromG B ts at_ most = [] := by unfold fromG; rw [if_neg (by omega)]
    have HE := Lib.hid e
    clear e
    go_enter Try.func13, Try.ntmps13
    go_wp2_with fail
    go_ret
    exact ⟨_, [], rfl, ⟨World.ownsRow_nil _ _ _ _, by simp⟩, by rw [HE.out]; rfl, Below.refl _ _⟩
  by_cases x2 : B + (m : Int) < at_
  · have e : fromG B ts at_ most = [] := by unfold fromG; rw [HM.out, if_neg (by omega)]
    have HE := Lib.hid e
    clear e
    go_enter Try.func13, Try.ntmps13
    go_wp2_with fail
    refine Calls.mono c1 ?_
    rintro ev w1 ⟨rfl, q, rfl⟩
    go_wp2_with fail
    go_ret
    exact ⟨_, [], rfl, ⟨World.ownsRow_nil _ _ _ _, by simp⟩, by rw [HE.out]; rfl, below_drewN' (Below.refl _ _) _⟩
  rcases hcase with ⟨rfl, rfl⟩ | ⟨b, c, rfl, hmc, hcm⟩
  · exfalso; simp at x2; omega
  obtain ⟨k, hk⟩ : ∃ k : Nat, at_ - B - 1 = k := ⟨(at_ - B - 1).toNat, by omega⟩
  have e : fromG B ts at_ most = ((ts.drop k).take most.toNat).map EN.k := by unfold fromG; rw [HM.out, if_pos (by omega), show (at_ - B - 1).toNat = k by omega]
  have HE := Lib.hid e
  have hkm : (k : Int) < m := by omega
  have hkc : (k : Int) < c := by omega
  have hck : ¬ c = k := by omega
  have w1 : IntKind.i64.wrap (at_ - B) = at_ - B := by rw [IntKind.wrap_i64]; omega
  have w2 : IntKind.i64.wrap (at_ - B - 1) = k := by rw [IntKind.wrap_i64]; omega
  have hsr := SR.owns H0.out.row
  rw [HM.out] at hsr
  obtain ⟨n', hn'⟩ : ∃ n', m - k = n' := ⟨_, rfl⟩
  have hsd := sr_drop hsr HM.out (d := k) (by omega)
  rw [hn'] at hsd
  have HK := Lib.hid (And.intro hk hn')
  unfold maxLen at hcm
  have hn1 : n' ≤ 300 := by omega
  clear hsr e hk
  go_enter Try.func13, Try.ntmps13
  go_wp2_with fail
  refine Calls.mono c1 ?_
  rintro ev w1 ⟨rfl, q, rfl⟩
  go_wp2_with fail
  go_region
  obtain ⟨es', hes'⟩ : ∃ l, l = ts.drop k := ⟨_, rfl⟩
  have hlen : es'.length = n' := by rw [hes', List.length_drop, HM.out, hn']
  rw [← hes'] at hsd HE
  have HV' := Lib.hid (And.intro hsd (And.intro (fun e (he : e ∈ es') => H0.out.lists e (List.mem_of_mem_drop (hes' ▸ he))) (fun e (he : e ∈ es') => HSH.out e (List.mem_of_mem_drop (hes' ▸ he)))))
  have HN' := Lib.hid hlen
  simp only [Nat.zero_add] at HV'
  clear hsd hlen hes' HM HSH g0 g1 g2 gf HK hn' x1 x2 w1 w2 c1
  obtain ⟨a', ha'⟩ : ∃ a', (some ⟨b, k * 7, none⟩ : Option Addr) = a' := ⟨_, rfl⟩
  obtain ⟨c', hc'⟩ : ∃ c', c - k = c' := ⟨_, rfl⟩
  rw [ha', hc'] at HV' ⊢
  have hcm' : c' ≤ 9223372036854775807 := by omega
  clear hkm hkc hck hmc hcm ha' hc'
  go_wp2_with fail
  have hb0 : Below w.heap.size w (w.drewN (q + 1)) := below_drewN' (Below.refl _ _) _
  obtain ⟨W, hW⟩ : ∃ W, w.drewN (q + 1) = W := ⟨_, rfl⟩
  rw [hW] at hb0 ⊢
  have HB0 := Lib.hid hb0
  clear hW hb0 H0
  go_loopw [7, 39] (fun lv i wr => ∃ (j : Nat) (fs : List EN), j ≤ n' ∧ i = .int .i64 j ∧ (j : Int) ≤ most ∧ fs.length = j ∧ Hid (fs.map EN.k = (es'.take j).map EN.k ∧ RowG wr w.heap.size lv fs ∧ Below w.heap.size w wr)) (fun _ i _ => n' - (intOf i).toNat)
  case atStart => exact ⟨0, [], Nat.zero_le _, rfl, hmo.1, rfl, Lib.hid ⟨rfl, ⟨World.ownsRow_nil _ _ _ _, by simp⟩, HB0.out⟩⟩
  case round =>
    obtain ⟨j, fs, hj, rfl, hjm, hfl, HR⟩ := hrel
    obtain ⟨ra, rc, rfl⟩ := owns_form3 HR.out.2.1.1
    rw [hfl]
    by_cases hlt : j < n'
    · obtain ⟨e, hej⟩ : ∃ e, es'[j]? = some e := ⟨_, List.getElem?_eq_getElem (by have := HN'.out; omega)⟩
      have hme := List.mem_of_getElem? hej
      have hsr := HV'.out.1
      obtain ⟨sa, sc, se, s1, s2, s3, s4⟩ := hsr
      injection se with se1 se2 se3
      subst se1 se3
      obtain ⟨bs, os, rfl, hbs, hcs⟩ := s4.resolve_left (by omega)
      have hcell : ∀ (k : Nat) (u : Value), e.cells[k]? = some u → wr.cell? ⟨bs, os + j * 7 + k, none⟩ = some u := fun k u hu => by
        have hk7 : k < 7 := (List.getElem?_eq_some_iff.1 hu).1
        have := hcs (j * 7 + k) u (enCells_get es' j e hej k u hu hk7)
        rw [← Nat.add_assoc] at this
        exact (HR.out.2.2.cell (p := ⟨bs, os + j * 7 + k, none⟩) hbs).trans this
      have k0 : wr.cell? ⟨bs, os + j * 7, none⟩ = some (.int .i64 e.t) := hcell 0 _ rfl
      have k1 : wr.cell? ⟨bs, os + j * 7 + 1, none⟩ = some (.int .i64 e.x) := hcell 1 _ rfl
      have k2 : wr.cell? ⟨bs, os + j * 7 + 2, none⟩ = some (.int .i64 e.c.e) := hcell 2 _ rfl
      have k3 : wr.cell? ⟨bs, os + j * 7 + 3, none⟩ = some (.int .i64 e.c.b) := hcell 3 _ rfl
      have k4 : wr.cell? ⟨bs, os + j * 7 + 4, none⟩ = some (.int .i64 e.c.k) := hcell 4 _ rfl
      have k5 : wr.cell? ⟨bs, os + j * 7 + 5, none⟩ = some (.slice e.a1 e.c.M.length e.q1) := hcell 5 _ rfl
      have k6 : wr.cell? ⟨bs, os + j * 7 + 6, none⟩ = some (.slice e.a2 e.c.C.length e.q2) := hcell 6 _ rfl
      have hat := (show EN.at_ e w from CFO.at_ (HV'.out.2.1 e hme)).below HR.out.2.2
      have hsh := HV'.out.2.2 e hme
      have hkn : ∀ f : EN, f.k = e.k → (fs ++ [f]).map EN.k = (es'.take (j + 1)).map EN.k := fun f hf => by rw [List.take_add_one, hej]; simp [HR.out.1, hf]
      have HKN := Lib.hid hkn
      clear hcell hcs hme hkn s1 s2 s3 hbs hej
      by_cases hmx : (j : Int) < most
      · have hmx2 : ¬ (most ≤ (j : Int)) := by omega
        have hy := heap_alloc_self wr (.cells #[.int .i64 e.t, .int .i64 e.x, .int .i64 e.c.e, .int .i64 e.c.b, .int .i64 e.c.k, .slice e.a1 e.c.M.length e.q1, .slice e.a2 e.c.C.length e.q2] 46)
        have hb1 := (Below.refl wr.heap.size wr).alloc (Nat.le_refl _) (.cells #[.int .i64 e.t, .int .i64 e.x, .int .i64 e.c.e, .int .i64 e.c.b, .int .i64 e.c.k, .slice e.a1 e.c.M.length e.q1, .slice e.a2 e.c.C.length e.q2] 46)
        have hat1 := EN.at_.below hat hb1
        have hR1 := HR.out.2.1.below hb1
        have HX := Lib.hid (And.intro hR1 (HR.out.2.2.trans (hb1.mono HR.out.2.2.size)))
        go_upto_region 8 with fail
        obtain ⟨X, hX⟩ : ∃ X, wr.heap.size = X := ⟨_, rfl⟩
        obtain ⟨w2, hw2⟩ : ∃ w2, wr.alloc (.cells #[.int .i64 e.t, .int .i64 e.x, .int .i64 e.c.e, .int .i64 e.c.b, .int .i64 e.c.k, .slice e.a1 e.c.M.length e.q1, .slice e.a2 e.c.C.length e.q2] 46) = w2 := ⟨_, rfl⟩
        rw [hw2] at hy hat1 HX ⊢
        have hXw : w.heap.size ≤ X := by rw [← hX]; exact HR.out.2.2.size
        rw [hX] at hy ⊢
        have hXl := lt_heap hy
        have hRX := HR.out.2.1.1
        have hrow2 : ∀ b, (Value.slice ra fs.length rc).ownBlock = some b → b < X := fun b hb => by rw [← hX]; exact (hRX.lt b hb).2
        have hl2 : ∀ f ∈ fs, (∀ b, (Value.slice f.a1 f.c.M.length f.q1).ownBlock = some b → b < X) ∧ ∀ b, (Value.slice f.a2 f.c.C.length f.q2).ownBlock = some b → b < X := fun f hf => by rw [← hX]; exact ⟨fun b hb => ((HR.out.2.1.2 f hf).1.lt b hb).2, fun b hb => ((HR.out.2.1.2 f hf).2.lt b hb).2⟩
        have HLT := Lib.hid (And.intro hrow2 hl2)
        have d0 := cell_atD hy 0 (v := .int .i64 e.t) rfl
        have d1 := cell_atD hy 1 (v := .int .i64 e.x) rfl
        have d2 := cell_atD hy 2 (v := .int .i64 e.c.e) rfl
        have d3 := cell_atD hy 3 (v := .int .i64 e.c.b) rfl
        have d4 := cell_atD hy 4 (v := .int .i64 e.c.k) rfl
        have d5 := cell_atD hy 5 (v := .slice e.a1 e.c.M.length e.q1) rfl
        have d6 := cell_atD hy 6 (v := .slice e.a2 e.c.C.length e.q2) rfl
        have co := ocmd e.x e.c e.a1 e.a2 e.q1 e.q2 w2 hat1 hsh
        have HY := Lib.hid hy
        clear hw2 hb1 hR1 hX hy hat hat1 hrow2 hl2 hRX HR k0 k1 k2 k3 k4 k5 k6
        go_wp2_with fail
        refine Calls.mono co ?_
        rintro ev w3 ⟨b1, p1, b2, p2, rfl, ho, h2⟩
        have kx := below_at h2 hXl HY.out
        have hX3 := HX.out.1.below h2
        have hb3 := HX.out.2.trans (h2.mono HX.out.2.size)
        clear d0 d1 d2 d3 d4 d5 d6 co HY
        have d0 := cell_atD kx 0 (v := .int .i64 e.t) rfl
        have d1 := cell_atD kx 1 (v := .int .i64 e.x) rfl
        have d2 := cell_atD kx 2 (v := .int .i64 e.c.e) rfl
        have d3 := cell_atD kx 3 (v := .int .i64 e.c.b) rfl
        have d4 := cell_atD kx 4 (v := .int .i64 e.c.k) rfl
        have d5 := cell_atD kx 5 (v := .slice e.a1 e.c.M.length e.q1) rfl
        have d6 := cell_atD kx 6 (v := .slice e.a2 e.c.C.length e.q2) rfl
        have fz : ∀ i, w3.frozen? ⟨X, i, none⟩ = false := fun i => by simp [World.frozen?, kx]
        have k1 : (w3.setCell ⟨X, 1, none⟩ (.int .i64 e.x)).heap[X]? = some (.cells #[.int .i64 e.t, .int .i64 e.x, .int .i64 e.c.e, .int .i64 e.c.b, .int .i64 e.c.k, .slice e.a1 e.c.M.length e.q1, .slice e.a2 e.c.C.length e.q2] 46) := heap_set_self kx 1 _
        have k2 : ((w3.setCell ⟨X, 1, none⟩ (.int .i64 e.x)).setCell ⟨X, 2, none⟩ (.int .i64 e.c.e)).heap[X]? = some (.cells #[.int .i64 e.t, .int .i64 e.x, .int .i64 e.c.e, .int .i64 e.c.b, .int .i64 e.c.k, .slice e.a1 e.c.M.length e.q1, .slice e.a2 e.c.C.length e.q2] 46) := heap_set_self k1 2 _
        have k3 : (((w3.setCell ⟨X, 1, none⟩ (.int .i64 e.x)).setCell ⟨X, 2, none⟩ (.int .i64 e.c.e)).setCell ⟨X, 3, none⟩ (.int .i64 e.c.b)).heap[X]? = some (.cells #[.int .i64 e.t, .int .i64 e.x, .int .i64 e.c.e, .int .i64 e.c.b, .int .i64 e.c.k, .slice e.a1 e.c.M.length e.q1, .slice e.a2 e.c.C.length e.q2] 46) := heap_set_self k2 3 _
        have k4 : ((((w3.setCell ⟨X, 1, none⟩ (.int .i64 e.x)).setCell ⟨X, 2, none⟩ (.int .i64 e.c.e)).setCell ⟨X, 3, none⟩ (.int .i64 e.c.b)).setCell ⟨X, 4, none⟩ (.int .i64 e.c.k)).heap[X]? = some (.cells #[.int .i64 e.t, .int .i64 e.x, .int .i64 e.c.e, .int .i64 e.c.b, .int .i64 e.c.k, .slice e.a1 e.c.M.length e.q1, .slice e.a2 e.c.C.length e.q2] 46) := heap_set_self k3 4 _
        have k5 : (((((w3.setCell ⟨X, 1, none⟩ (.int .i64 e.x)).setCell ⟨X, 2, none⟩ (.int .i64 e.c.e)).setCell ⟨X, 3, none⟩ (.int .i64 e.c.b)).setCell ⟨X, 4, none⟩ (.int .i64 e.c.k)).setCell ⟨X, 5, none⟩ (.slice b1 e.c.M.length p1)).heap[X]? = some (.cells #[.int .i64 e.t, .int .i64 e.x, .int .i64 e.c.e, .int .i64 e.c.b, .int .i64 e.c.k, .slice b1 e.c.M.length p1, .slice e.a2 e.c.C.length e.q2] 46) := heap_set_self k4 5 _
        have k6 : ((((((w3.setCell ⟨X, 1, none⟩ (.int .i64 e.x)).setCell ⟨X, 2, none⟩ (.int .i64 e.c.e)).setCell ⟨X, 3, none⟩ (.int .i64 e.c.b)).setCell ⟨X, 4, none⟩ (.int .i64 e.c.k)).setCell ⟨X, 5, none⟩ (.slice b1 e.c.M.length p1)).setCell ⟨X, 6, none⟩ (.slice b2 e.c.C.length p2)).heap[X]? = some (.cells #[.int .i64 e.t, .int .i64 e.x, .int .i64 e.c.e, .int .i64 e.c.b, .int .i64 e.c.k, .slice b1 e.c.M.length p1, .slice b2 e.c.C.length p2] 46) := heap_set_self k5 6 _
        have kO : Only X w3 ((((((w3.setCell ⟨X, 1, none⟩ (.int .i64 e.x)).setCell ⟨X, 2, none⟩ (.int .i64 e.c.e)).setCell ⟨X, 3, none⟩ (.int .i64 e.c.b)).setCell ⟨X, 4, none⟩ (.int .i64 e.c.k)).setCell ⟨X, 5, none⟩ (.slice b1 e.c.M.length p1)).setCell ⟨X, 6, none⟩ (.slice b2 e.c.C.length p2)) := ((((((Only.refl _ _).set 1 _).set 2 _).set 3 _).set 4 _).set 5 _).set 6 _
        have hmv3 : ∀ (y : Nat), y < X → ∀ w', Only X w3 w' → y < w3.heap.size → w'.heap[y]? = w3.heap[y]? := fun y hy w' ho hl => ho.block y hl (by omega)
        have hR4 : RowG ((((((w3.setCell ⟨X, 1, none⟩ (.int .i64 e.x)).setCell ⟨X, 2, none⟩ (.int .i64 e.c.e)).setCell ⟨X, 3, none⟩ (.int .i64 e.c.b)).setCell ⟨X, 4, none⟩ (.int .i64 e.c.k)).setCell ⟨X, 5, none⟩ (.slice b1 e.c.M.length p1)).setCell ⟨X, 6, none⟩ (.slice b2 e.c.C.length p2)) w.heap.size (.slice ra fs.length rc) fs := ⟨own_moveN hX3.1 fun b hb => kO.block b (hX3.1.lt b hb).2 (fun e => by have := HLT.out.1 b hb; omega), fun f hf => ⟨own_moveN (hX3.2 f hf).1 fun b hb => kO.block b ((hX3.2 f hf).1.lt b hb).2 (fun e => by have := (HLT.out.2 f hf).1 b hb; omega), own_moveN (hX3.2 f hf).2 fun b hb => kO.block b ((hX3.2 f hf).2.lt b hb).2 (fun e => by have := (HLT.out.2 f hf).2 b hb; omega)⟩⟩
        have ho4 : CFO e.c w2.heap.size ((((((w3.setCell ⟨X, 1, none⟩ (.int .i64 e.x)).setCell ⟨X, 2, none⟩ (.int .i64 e.c.e)).setCell ⟨X, 3, none⟩ (.int .i64 e.c.b)).setCell ⟨X, 4, none⟩ (.int .i64 e.c.k)).setCell ⟨X, 5, none⟩ (.slice b1 e.c.M.length p1)).setCell ⟨X, 6, none⟩ (.slice b2 e.c.C.length p2)) (.slice b1 e.c.M.length p1) (.slice b2 e.c.C.length p2) := ho.only kO hXl
        have H4 := Lib.hid (And.intro k6 (And.intro hR4 (And.intro ho4 (hb3.trans (kO.below hXw hb3.size)))))
        have hXs : X < w2.heap.size := hXl
        clear kO hR4 ho4 k1 k2 k3 k4 k5 k6 hX3 hb3 kx h2 ho hmv3 HX HLT
        go_upto_region 9 with fail
        generalize ((((((w3.setCell ⟨X, 1, none⟩ (.int .i64 e.x)).setCell ⟨X, 2, none⟩ (.int .i64 e.c.e)).setCell ⟨X, 3, none⟩ (.int .i64 e.c.b)).setCell ⟨X, 4, none⟩ (.int .i64 e.c.k)).setCell ⟨X, 5, none⟩ (.slice b1 e.c.M.length p1)).setCell ⟨X, 6, none⟩ (.slice b2 e.c.C.length p2)) = w4 at *
        have hx := H4.out.1
        have d0 := cell_atD hx 0 (v := .int .i64 e.t) rfl
        have d1 := cell_atD hx 1 (v := .int .i64 e.x) rfl
        have d2 := cell_atD hx 2 (v := .int .i64 e.c.e) rfl
        have d3 := cell_atD hx 3 (v := .int .i64 e.c.b) rfl
        have d4 := cell_atD hx 4 (v := .int .i64 e.c.k) rfl
        have d5 := cell_atD hx 5 (v := .slice b1 e.c.M.length p1) rfl
        have d6 := cell_atD hx 6 (v := .slice b2 e.c.C.length p2) rfl
        have hs4 := H4.out.2.2.2.size
        have ho4' := H4.out.2.1.1
        rw [hfl] at ho4'
        have HO4 := Lib.hid ho4'
        clear fz hx ho4'
        go_wp2_with (at_builtin; refine wp_app Try.underlying25 hi hz0 hz1 hz2 rfl (by decide) rfl (.tmp 51) (.tmp 53) rfl w.heap.size _ _ _ rfl (HO4.out.alloc _) _ 1 (enCells [⟨e.t, e.x, e.c, b1, p1, b2, p2⟩]) rfl (SR.lit _ _ #[.int .i64 e.t, .int .i64 e.x, .int .i64 e.c.e, .int .i64 e.c.b, .int .i64 e.c.k, .slice b1 e.c.M.length p1, .slice b2 e.c.C.length p2] 7 1 (by decide) rfl) ?c1 ?c2 ?c3 ?c4 ?_)
        case c1 => exact enCells_one _
        case c2 => unfold maxLen; omega
        case c3 => omega
        case c4 => first | (simp; omega) | omega
        intro v' w5 hown hgr
        have hRA := RowG.app (e := ⟨e.t, e.x, e.c, b1, p1, b2, p2⟩) (show RowG w4 w.heap.size (.slice ra j rc) fs from ⟨by rw [hfl]; exact HO4.out, H4.out.2.1.2⟩) (CFO.base H4.out.2.2.1 (by omega)) (by rw [hfl]; exact hown) hgr
        have hb5 : Below w.heap.size w w5 := (H4.out.2.2.2.alloc hs4 _).grown hgr (by simp; omega) (fun k e => (HO4.out.lt k e).1)
        have HF := Lib.hid (And.intro (HKN.out ⟨e.t, e.x, e.c, b1, p1, b2, p2⟩ rfl) (And.intro hRA hb5))
        clear hown hgr hRA hb5 d0 d1 d2 d3 d4 d5 d6 H4
        go_wp2_with fail
        go_roundw
        case rel => exact ⟨j + 1, _, by omega, by go_num, by omega, by simp [hfl], HF⟩
        case measure => simp [intOf]; omega
      · have hmx2 : most ≤ (j : Int) := by omega
        have hjm2 : most.toNat = j := by omega
        have hb1 := (Below.refl wr.heap.size wr).alloc (Nat.le_refl _) (.cells #[.int .i64 e.t, .int .i64 e.x, .int .i64 e.c.e, .int .i64 e.c.b, .int .i64 e.c.k, .slice e.a1 e.c.M.length e.q1, .slice e.a2 e.c.C.length e.q2] 46)
        have HF := Lib.hid (And.intro (HR.out.2.1.below hb1) (HR.out.2.2.trans (hb1.mono HR.out.2.2.size)))
        have HH := Lib.hid (show fs.map EN.k = fromG B ts at_ most by rw [HE.out, hjm2]; exact HR.out.1)
        clear hb1 hat hjm2
        go_wp2_with fail
        go_ret
        exact ⟨_, fs, rfl, by have h := HF.out.1; rw [hfl] at h; exact h, HH.out, HF.out.2⟩
    · obtain rfl : j = n' := by omega
      have HH := Lib.hid (show fs.map EN.k = fromG B ts at_ most by rw [HE.out, HR.out.1, List.take_of_length_le (by rw [HN'.out]; exact Nat.le_refl _), List.take_of_length_le (by rw [HN'.out]; omega)])
      go_wp2_with fail
      go_ret
      exact ⟨_, fs, rfl, by have h := HR.out.2.1; rw [hfl] at h; exact h, HH.out, HR.out.2.2⟩
end Go.Proofs.Ytkdmnhmlkcejfaa
