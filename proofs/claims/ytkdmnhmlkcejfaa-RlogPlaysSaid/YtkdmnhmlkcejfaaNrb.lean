/-
  Entries near those that were drawn: tarnlaw16.near.
-/
import Derived.Test.YtkdmnhmlkcejfaaNra
import Derived.Test.YtkdmnhmlkcejfaaDecH
namespace Go.Proofs.Ytkdmnhmlkcejfaa
open Go.RowKit
set_option linter.unusedVariables false
set_option linter.unusedSimpArgs false

section
variable {P : Program}
theorem wp_appE {t e : TypeId} {i : TypeInfo} {z : Value} {size bytes : Nat} (ht : P.underlying t = some (.slice e)) (hi : P.info? e = some i) (hz : i.zero = some z) (hsize : i.size = size) (hby : i.bytes = bytes)
    (hzs : z.cells.size = size) (hsz : 0 < size) {ops : Array Oper} {rest : List Oper} {o : Oper} {a : Act} {Q : Exit → Act → World → Prop} {w : World} (hgd : o.guard = none) (s x : Operand)
    (ho : o.op = .call { callee := .builtin .append, args := #[s, x], argTypes := #[t, t] }) (base : Nat) (v : Value) (n : Nat) (xs : List Value) (hs : a.eval s = v) (hown : w.ownsRow base e size v n xs)
    (ad : Addr) (cap m : Nat) (news : List Value) (hx : a.eval x = .slice (some ad) m cap) (hr : SR w (.slice (some ad) m cap) size m news) (hm : 0 < m)
    (h1 : ∀ y ∈ news, y.oneCell' = true) (h63 : n + m ≤ maxLen) (hbytes : (n + m) * bytes ≤ 140737488355328) (hbase : base ≤ w.heap.size)
    (h : ∀ v' w', w'.ownsRow base e size v' (n + m) (xs ++ news) → w.grownBy w' v.ownBlock → (v'.ownBlock = v.ownBlock ∨ v'.ownBlock = some w.heap.size) → wpList P ops Q rest (a.put o.dst v') w') : wpList P ops Q (o :: rest) a w := by
  refine wpList_plain hgd fun K hK => ?_
  obtain ⟨a', cap', he, hmc, hcm, hl, hc⟩ := hr
  injection he with e1 _ e2
  subst e1 e2
  have hcells : ∀ (j : Nat) y, news[j]? = some y → w.cell? (ad.add j) = some y := by
    intro j y hj
    rcases hc with h0 | ⟨b, off, e2, _, hcell⟩
    · omega
    · cases e2
      rw [add_off]
      exact hcell j y hj
  obtain ⟨v', w', hrun, h2, h3, _, h5⟩ := run_append_own_at (P := P) w base t o.type e i z size bytes ht hi hz hsize hby hzs hsz v n xs hown ad m cap news hl hcells h1 h63 hbytes hbase
  unfold Oper.wp execOp
  simp only [ho, resolve, invoke, builtin, Sem.run_bind, Sem.run_pure, Result.andThen_ok, List.map_toArray, List.map_cons, List.map_nil, hs, hx, hrun]
  exact hK _ _ (h v' w' h2 h3 h5)
end
/-- a list reads so, and its block is told -/
def LR (P : Nat → Prop) (w : World) (v : Value) (M : List Int) : Prop := SR w v 1 M.length (nCells M) ∧ (M.length = 0 ∨ ∃ b, v.ownBlock = some b ∧ b < w.heap.size ∧ P b)
theorem LR.move {P Q : Nat → Prop} {w w' : World} {v : Value} {M : List Int} (h : LR P w v M) (hs : w.heap.size ≤ w'.heap.size) (hk : ∀ b, b < w.heap.size → P b → w'.heap[b]? = w.heap[b]? ∧ Q b) : LR Q w' v M := by
  obtain ⟨⟨a, cap, rfl, h1, h2, h3, h4⟩, h5⟩ := h
  rcases h5 with h5 | ⟨b, hb, hl, hp⟩
  · exact ⟨⟨a, cap, rfl, h1, h2, h3, .inl h5⟩, .inl h5⟩
  · refine ⟨⟨a, cap, rfl, h1, h2, h3, h4.imp id ?_⟩, .inr ⟨b, hb, Nat.lt_of_lt_of_le hl hs, (hk b hl hp).2⟩⟩
    rintro ⟨g, off, rfl, hg, hc⟩
    have : g = b := by simpa [Value.ownBlock] using hb
    subst this
    exact ⟨g, off, rfl, Nat.lt_of_lt_of_le hg hs, fun j u hj => (World.cell?_of_block (a := ⟨g, off + j, none⟩) (hk g hg hp).1).trans (hc j u hj)⟩
def EN.lr (e : EN) (P : Nat → Prop) (w : World) : Prop := LR P w (.slice e.a1 e.c.M.length e.q1) e.c.M ∧ LR P w (.slice e.a2 e.c.C.length e.q2) e.c.C
theorem EN.lr.move {e : EN} {P Q : Nat → Prop} {w w' : World} (h : e.lr P w) (hs : w.heap.size ≤ w'.heap.size) (hk : ∀ b, b < w.heap.size → P b → w'.heap[b]? = w.heap[b]? ∧ Q b) : e.lr Q w' := ⟨h.1.move hs hk, h.2.move hs hk⟩
theorem EN.lr.at_ {e : EN} {P : Nat → Prop} {w : World} (h : e.lr P w) : e.at_ w := ⟨h.1.1, h.2.1⟩
theorem lr_of {lo : Nat} {w : World} {n p : Nat} {a : Option Addr} {M : List Int} (hn : M.length = n) (h : SR w (.slice a n p) 1 n (nCells M)) (hg : ∀ b, (Value.slice a n p).ownBlock = some b → lo < b) : LR (fun b => lo < b) w (.slice a n p) M := by
  subst hn
  refine ⟨h, ?_⟩
  obtain ⟨a', cap, e, h1, h2, h3, h4⟩ := h
  injection e with e1 e2 e3
  subst e1 e3
  rcases h4 with h4 | ⟨g, off, rfl, hb, hc⟩
  · exact .inl h4
  · exact .inr ⟨g, rfl, hb, hg g rfl⟩
/-- what is gathered: entries in a row of the call's own, whose lists lie elsewhere -/
def GR (w wr : World) (v : Value) (es : List EN) : Prop :=
  wr.ownsRow w.heap.size 46 7 v es.length (enCells es) ∧ (∀ e ∈ es, mayE e.t e.x e.c = true ∧ e.lr (fun b => v.ownBlock ≠ some b) wr) ∧ Below w.heap.size w wr
theorem GR.form {w wr : World} {v : Value} {es : List EN} (h : GR w wr v es) : ∃ a c, v = .slice a es.length c := owns_form3 h.1
theorem gr_start (w : World) : GR w (w.alloc (.cells #[] 46)) (.slice (some ⟨w.heap.size, 0, none⟩) 0 0) [] :=
  ⟨⟨rfl, .inr ⟨w.heap.size, 0, #[], rfl, Nat.le_refl _, heap_alloc_self w _, Nat.le_refl _, by decide, rfl, rfl⟩⟩, by simp, (Below.refl _ _).alloc (Nat.le_refl _) _⟩
/-- calls and blocks of their own leave it -/
theorem GR.keep {w wr w' : World} {v : Value} {es : List EN} (h : GR w wr v es) (hb : Below wr.heap.size wr w') : GR w w' v es :=
  ⟨owns_below h.1 hb, fun e he => ⟨(h.2.1 e he).1, (h.2.1 e he).2.move hb.size fun b hl hp => ⟨hb.block b hl, hp⟩⟩, h.2.2.trans (hb.mono h.2.2.size)⟩
theorem gr_new {w wr w' : World} {v v' : Value} {es : List EN} {o : Obj} {e : EN} (h : GR w wr v es) (he : mayE e.t e.x e.c = true) (hl : e.lr (fun b => v.ownBlock ≠ some b) wr) (own2 : w'.ownsRow w.heap.size 46 7 v' (es.length + 1) (enCells es ++ enCells [e])) (hg : (wr.alloc o).grownBy w' v.ownBlock) (hn : v'.ownBlock = v.ownBlock ∨ v'.ownBlock = some (wr.heap.size + 1)) : GR w w' v' (es ++ [e]) := by
  have hsz : wr.heap.size ≤ w'.heap.size := Nat.le_trans (by simp) hg.size
  have hmv : ∀ b, b < wr.heap.size → v.ownBlock ≠ some b → w'.heap[b]? = wr.heap[b]? ∧ v'.ownBlock ≠ some b := by
    intro b hb hp
    refine ⟨(hg.block b (by simp; omega) (fun e => hp e.symm)).trans (Below.heap_alloc _ _ _ hb), ?_⟩
    rcases hn with hn | hn
    · rw [hn]; exact hp
    · rw [hn]
      intro e
      simp at e
      omega
  refine ⟨?_, ?_, ?_⟩
  · rw [List.length_append, ← enCells_append]; exact own2
  · intro f hf
    rcases List.mem_append.1 hf with q | q
    · exact ⟨(h.2.1 f q).1, (h.2.1 f q).2.move hsz hmv⟩
    · rw [List.mem_singleton.1 q]
      exact ⟨he, hl.move hsz hmv⟩
  · exact ((h.2.2.alloc h.2.2.size o).grown hg (by have := h.2.2.size; simp; omega) (fun k e => (h.1.lt k e).1))
theorem may_short {t x : Int} {c : CF} (h : mayE t x c = true) : short c := by
  simp only [mayE, Bool.and_eq_true] at h
  obtain ⟨-, -, h⟩ := h
  by_cases h0 : x = 0
  · subst h0
    simp [mayK, noneC] at h
    exact ⟨by simp [h], by simp [h]⟩
  by_cases h1 : x = 1
  · subst h1; exact (may_wish h).2.1
  by_cases h2 : x = 2
  · subst h2
    simp [mayK, sameC] at h
    exact ⟨by simp [h], by simp [h]⟩
  · simp [mayK, h0, h1, h2] at h
def Near16 (w : World) (ev : Ending) (w' : World) : Prop := ∃ v es, ev = .returned v ∧ GR w w' v es ∧ es.length ≤ 6
set_option maxHeartbeats 6400000 in
set_option maxRecDepth 100000 in
theorem near16 (rs : List EN) (fr : Int) (w : World) (v : Value) (hv : Elts w EN.cells 7 v rs) (hrs : ∀ r ∈ rs, r.at_ w) :
    Calls Try.prog 7 #[v, .int .i64 fr] w (Near16 w) := by
  obtain ⟨i0, hi, hz0, hz1, hz2⟩ := info_parts einfoN
  obtain ⟨av, cap, rfl, hlc, hcm, hel⟩ := hv
  have hel' : Elts w EN.cells 7 (.slice av rs.length cap) rs := ⟨av, cap, rfl, hlc, hcm, hel⟩
  have HV := Lib.hid (And.intro hel' hrs)
  obtain ⟨n, hn⟩ : ∃ n, rs.length = n := ⟨_, rfl⟩
  rw [hn] at hlc
  rw [hn]
  rw [hn] at HV
  have HN := Lib.hid hn
  unfold maxLen at hcm
  have HS := Lib.hid (gr_start w)
  clear hrs hn hel hel'
  go_enter Try.func7, Try.ntmps7
  go_upto_block 0 with fail
  generalize w.alloc (.cells #[] 46) = W at *
  go_cut [5, 6, 7] from 13 to 43 (fun ov _ _ wx => ∃ v es, ov = v ∧ Hid (GR w wx v es) ∧ es.length ≤ 6)
  case first =>
    go_wp2_with fail
    go_loopw [5, 6, 7] (fun ov tv iv wr => ∃ (j : Nat) (z : Int) (v : Value) (es : List EN), j ≤ 6 ∧ iv = .int .i64 j ∧ tv = .int .i64 z ∧ ov = v ∧ Hid (GR w wr v es) ∧ es.length ≤ j) (fun _ _ i _ => 6 - (intOf i).toNat)
    case atStart => exact ⟨0, _, _, [], by omega, rfl, rfl, rfl, HS, by simp⟩
    case round =>
      obtain ⟨j, z, v, es, hj, rfl, rfl, rfl, HG, hle⟩ := hrel
      clear HS
      obtain ⟨ov, oc, rfl⟩ := HG.out.form
      by_cases hin : j < n ∧ j < 6
      · obtain ⟨hi1, hi2⟩ := hin
        have hi1' : (j : Int) < (n : Int) := by omega
        have hi2' : (j : Int) < 6 := by omega
        obtain ⟨r, hrj⟩ : ∃ r, rs[j]? = some r := ⟨_, List.getElem?_eq_getElem (by have := HN.out; omega)⟩
        have hra := HV.out.2 r (List.mem_of_getElem? hrj)
        obtain ⟨-, g, off, rfl, hg, hc⟩ := HV.out.1.at_ hrj
        have l0 : wr.cell? ⟨g, off + j * 7, none⟩ = some (.int .i64 r.t) := (HG.out.2.2.cell (p := ⟨g, off + j * 7, none⟩) hg).trans (hc 0 _ rfl)
        have l1 : wr.cell? ⟨g, off + j * 7 + 1, none⟩ = some (.int .i64 r.x) := (HG.out.2.2.cell (p := ⟨g, off + j * 7 + 1, none⟩) hg).trans (hc 1 _ rfl)
        have l2 : wr.cell? ⟨g, off + j * 7 + 2, none⟩ = some (.int .i64 r.c.e) := (HG.out.2.2.cell (p := ⟨g, off + j * 7 + 2, none⟩) hg).trans (hc 2 _ rfl)
        have l3 : wr.cell? ⟨g, off + j * 7 + 3, none⟩ = some (.int .i64 r.c.b) := (HG.out.2.2.cell (p := ⟨g, off + j * 7 + 3, none⟩) hg).trans (hc 3 _ rfl)
        have l4 : wr.cell? ⟨g, off + j * 7 + 4, none⟩ = some (.int .i64 r.c.k) := (HG.out.2.2.cell (p := ⟨g, off + j * 7 + 4, none⟩) hg).trans (hc 4 _ rfl)
        have l5 : wr.cell? ⟨g, off + j * 7 + 5, none⟩ = some (.slice r.a1 r.c.M.length r.q1) := (HG.out.2.2.cell (p := ⟨g, off + j * 7 + 5, none⟩) hg).trans (hc 5 _ rfl)
        have l6 : wr.cell? ⟨g, off + j * 7 + 6, none⟩ = some (.slice r.a2 r.c.C.length r.q2) := (HG.out.2.2.cell (p := ⟨g, off + j * 7 + 6, none⟩) hg).trans (hc 6 _ rfl)
        have c0w : ∀ w', Below wr.heap.size wr w' → w'.cell? ⟨g, off + j * 7, none⟩ = some (.int .i64 r.t) := fun w' hb => (hb.cell (p := ⟨g, off + j * 7, none⟩) (Nat.lt_of_lt_of_le hg HG.out.2.2.size)).trans l0
        have H0w := Lib.hid c0w
        have cN := near13 r wr (hra.below HG.out.2.2)
        clear hra hc hrj c0w hg
        go_wp2_with fail
        refine Calls.mono cN ?_
        rintro ev wN ⟨t0, y, de, db, dk, n1, n2, a1, p1, a2, p2, rfl, hD, hbN⟩
        clear cN l0 l1 l2 l3 l4 l5 l6
        have hba : Below wN.heap.size wN (wN.alloc (.cells #[.int .i64 t0, .int .i64 y, .int .i64 de, .int .i64 db, .int .i64 dk, .slice a1 n1 p1, .slice a2 n2 p2] 46)) := (Below.refl _ _).alloc (Nat.le_refl _) _
        have hK := heap_alloc_self wN (.cells #[.int .i64 t0, .int .i64 y, .int .i64 de, .int .i64 db, .int .i64 dk, .slice a1 n1 p1, .slice a2 n2 p2] 46)
        have hG1 := (HG.out.keep hbN).keep hba
        have hbA : Below wr.heap.size wr (wN.alloc (.cells #[.int .i64 t0, .int .i64 y, .int .i64 de, .int .i64 db, .int .i64 dk, .slice a1 n1 p1, .slice a2 n2 p2] 46)) := hbN.trans (hba.mono hbN.size)
        have k0 := H0w.out _ hbA
        have hNr : wr.heap.size ≤ wN.heap.size := hbN.size
        obtain ⟨M, C, rfl, ⟨rfl, hs1, hs2⟩, s1, s2, o1, o2⟩ := hD
        have hlr : (⟨t0, y, ⟨de, db, dk, M, C⟩, a1, p1, a2, p2⟩ : EN).lr (fun b => wr.heap.size < b) wN := ⟨lr_of rfl s1 o1, lr_of rfl s2 o2⟩
        clear s1 s2 o1 o2
        have HX := Lib.hid (And.intro hK (And.intro hG1 (And.intro hlr (And.intro hbA hba))))
        clear hba hK hG1 hlr hbA hbN H0w
        go_upto_region 6 with fail
        have m1 : bits .and .i64 r.t 1 = r.t % 2 := mask_mod r.t 1 1 (by decide) (by decide)
        generalize r.t % 2 = B at m1
        generalize wN.alloc (.cells #[.int .i64 t0, .int .i64 y, .int .i64 de, .int .i64 db, .int .i64 dk, .slice a1 M.length p1, .slice a2 C.length p2] 46) = wA at *
        go_upto_region 7 with fail
        generalize wrap64 (z + B) = z2 at *
        clear m1 k0
        obtain ⟨hK, hG1, hlr, hbA, hba⟩ := HX.out
        clear HX
        have d0 := cell_atD hK 0 (v := .int .i64 t0) rfl
        have d1 := cell_atD hK 1 (v := .int .i64 y) rfl
        have d2 := cell_atD hK 2 (v := .int .i64 de) rfl
        have d3 := cell_atD hK 3 (v := .int .i64 db) rfl
        have d4 := cell_atD hK 4 (v := .int .i64 dk) rfl
        have d5 := cell_atD hK 5 (v := .slice a1 M.length p1) rfl
        have d6 := cell_atD hK 6 (v := .slice a2 C.length p2) rfl
        have fz : ∀ i, wA.frozen? ⟨wN.heap.size, i, none⟩ = false := fun i => by simp [World.frozen?, hK]
        have g1 : (wA.setCell ⟨wN.heap.size, 0, none⟩ (.int .i64 z2)).heap[wN.heap.size]? = some (.cells #[.int .i64 z2, .int .i64 y, .int .i64 de, .int .i64 db, .int .i64 dk, .slice a1 M.length p1, .slice a2 C.length p2] 46) := heap_set_self hK 0 _
        have hso : ∀ k, k ≠ wN.heap.size → (wA.setCell ⟨wN.heap.size, 0, none⟩ (.int .i64 z2)).heap[k]? = wA.heap[k]? := fun k hk => heap_setCell_other _ _ _ _ hk
        have hb2 : Below wr.heap.size wr (wA.setCell ⟨wN.heap.size, 0, none⟩ (.int .i64 z2)) := hbA.setCell (p := ⟨wN.heap.size, 0, none⟩) hNr _
        have hlr2 : (⟨z2, y, ⟨de, db, dk, M, C⟩, a1, p1, a2, p2⟩ : EN).lr (fun b => wr.heap.size < b) (wA.setCell ⟨wN.heap.size, 0, none⟩ (.int .i64 z2)) := EN.lr.move (e := ⟨z2, y, ⟨de, db, dk, M, C⟩, a1, p1, a2, p2⟩) hlr (by simpa [World.setCell] using hba.size) fun b hb hp => ⟨(hso b (by omega)).trans (hba.block b hb), hp⟩
        have HX := Lib.hid (And.intro g1 (And.intro hb2 hlr2))
        clear hK hG1 hlr hbA hba g1 hso hb2 hlr2
        go_upto_region 8 with fail
        clear fz d0 d1 d2 d3 d4 d5 d6
        generalize wA.setCell ⟨wN.heap.size, 0, none⟩ (.int .i64 z2) = wB at *
        obtain ⟨hK, hb2, hlr⟩ := HX.out
        clear HX
        have hG1 := HG.out.keep hb2
        have hbrow : ∀ b, (Value.slice ov es.length oc).ownBlock = some b → b < wr.heap.size := fun b q => by obtain ⟨c, hc⟩ := own_typeN HG.out.1 q; exact lt_heap hc
        have hlr2 : (⟨z2, y, ⟨de, db, dk, M, C⟩, a1, p1, a2, p2⟩ : EN).lr (fun b => (Value.slice ov es.length oc).ownBlock ≠ some b) wB := hlr.move (Nat.le_refl _) fun b hb hp => ⟨rfl, fun q => by have := hbrow b q; omega⟩
        have d0 := cell_atD hK 0 (v := .int .i64 z2) rfl
        have d1 := cell_atD hK 1 (v := .int .i64 y) rfl
        have d2 := cell_atD hK 2 (v := .int .i64 de) rfl
        have d3 := cell_atD hK 3 (v := .int .i64 db) rfl
        have d4 := cell_atD hK 4 (v := .int .i64 dk) rfl
        have d5 := cell_atD hK 5 (v := .slice a1 M.length p1) rfl
        have d6 := cell_atD hK 6 (v := .slice a2 C.length p2) rfl
        have cm := rmayE z2 y ⟨de, db, dk, M, C⟩ a1 a2 p1 p2 wB hlr2.at_
        simp only at cm
        have HX := Lib.hid (And.intro hK (And.intro hG1 hlr2))
        clear hK hG1 hb2 hlr hbrow hlr2
        rcases hm : mayE z2 y ⟨de, db, dk, M, C⟩
        · rw [hm] at cm
          clear hm
          go_wp2_with fail
          refine Calls.mono cm ?_
          rintro ev wC ⟨rfl, hbC⟩
          have HF := Lib.hid (HX.out.2.1.keep hbC)
          clear cm hbC HX d0 d1 d2 d3 d4 d5 d6
          go_wp2_with fail
          go_roundw
          case rel => exact ⟨j + 1, _, _, es, by omega, by go_num, rfl, rfl, HF, by omega⟩
          case measure => simp [intOf]; omega
        · rw [hm] at cm
          have HM := Lib.hid hm
          clear hm
          go_wp2_with fail
          refine Calls.mono cm ?_
          rintro ev wC ⟨rfl, hbC⟩
          have hK := below_at hbC (lt_heap HX.out.1) HX.out.1
          have hG := HX.out.2.1.keep hbC
          have hlr : (⟨z2, y, ⟨de, db, dk, M, C⟩, a1, p1, a2, p2⟩ : EN).lr (fun b => (Value.slice ov es.length oc).ownBlock ≠ some b) wC := HX.out.2.2.move hbC.size fun b hb hp => ⟨hbC.block b hb, hp⟩
          clear cm hbC HX d0 d1 d2 d3 d4 d5 d6
          have d0 := cell_atD hK 0 (v := .int .i64 z2) rfl
          have d1 := cell_atD hK 1 (v := .int .i64 y) rfl
          have d2 := cell_atD hK 2 (v := .int .i64 de) rfl
          have d3 := cell_atD hK 3 (v := .int .i64 db) rfl
          have d4 := cell_atD hK 4 (v := .int .i64 dk) rfl
          have d5 := cell_atD hK 5 (v := .slice a1 M.length p1) rfl
          have d6 := cell_atD hK 6 (v := .slice a2 C.length p2) rfl
          have HX := Lib.hid (And.intro hG hlr)
          clear hK hG hlr
          have hes6 : es.length ≤ 6 := by omega
          have hwcs : w.heap.size ≤ wC.heap.size := HX.out.1.2.2.size
          go_wp2_with (at_builtin; refine wp_appE Try.underlying25 hi hz0 hz1 hz2 rfl (by decide) rfl (.tmp 40) (.tmp 42) rfl w.heap.size _ _ _ rfl (HX.out.1.1.alloc _) _ _ 1 (enCells [⟨z2, y, ⟨de, db, dk, M, C⟩, a1, p1, a2, p2⟩]) rfl (SR.lit _ _ #[.int .i64 z2, .int .i64 y, .int .i64 de, .int .i64 db, .int .i64 dk, .slice a1 M.length p1, .slice a2 C.length p2] 7 1 (by decide) rfl) (by decide) (enCells_one _) (by unfold maxLen; omega) (by omega) (by simp; omega) ?_)
          intro v2 wD own2 hg2 hn2
          have HF := Lib.hid (gr_new HX.out.1 HM.out HX.out.2 own2 hg2 hn2)
          obtain ⟨a3, c3, rfl⟩ := owns_form3 own2
          clear own2 hg2 hn2 HX d0 d1 d2 d3 d4 d5 d6
          go_wp2_with fail
          go_roundw
          case rel => exact ⟨j + 1, _, _, _, by omega, by go_num, rfl, rfl, HF, by simp; omega⟩
          case measure => simp [intOf]; omega
      · have hout : ¬ (j < n) ∨ (j < n ∧ ¬ (j < 6)) := by omega
        have HF := Lib.hid (show ∃ v es', Value.slice ov es.length oc = v ∧ Hid (GR w wr v es') ∧ es'.length ≤ 6 from ⟨_, es, rfl, HG, by omega⟩)
        rcases hout with ho | ⟨ho, ho2⟩
        · have ho' : ¬ ((j : Int) < (n : Int)) := by omega
          go_wp2_with fail
          go_meet
          exact HF.out
        · have ho' : (j : Int) < (n : Int) := by omega
          have ho2' : ¬ ((j : Int) < 6) := by omega
          go_wp2_with fail
          go_meet
          exact HF.out
  case rest =>
    obtain ⟨v, es, rfl, HG, hle⟩ := hcut
    go_wp2_with fail
    go_ret
    exact ⟨_, es, rfl, HG.out, hle⟩
end Go.Proofs.Ytkdmnhmlkcejfaa
