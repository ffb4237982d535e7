/-
  Entries near what came, whose lists lie behind the call's start.
-/
import Derived.Test.YtkdmnhmlkcejfaaNrb
namespace Go.Proofs.Ytkdmnhmlkcejfaa
open Go.RowKit
set_option linter.unusedVariables false
set_option linter.unusedSimpArgs false

/-- what is gathered: entries in a row of the call's own, whose lists lie elsewhere -/
def GS (w wr : World) (v : Value) (es : List EN) : Prop :=
  wr.ownsRow w.heap.size 46 7 v es.length (enCells es) ∧ (∀ e ∈ es, mayE e.t e.x e.c = true ∧ e.lr (fun b => v.ownBlock ≠ some b ∧ w.heap.size ≤ b) wr) ∧ Below w.heap.size w wr
theorem GS.form {w wr : World} {v : Value} {es : List EN} (h : GS w wr v es) : ∃ a c, v = .slice a es.length c := owns_form3 h.1
theorem gs_start (w : World) : GS w (w.alloc (.cells #[] 46)) (.slice (some ⟨w.heap.size, 0, none⟩) 0 0) [] :=
  ⟨⟨rfl, .inr ⟨w.heap.size, 0, #[], rfl, Nat.le_refl _, heap_alloc_self w _, Nat.le_refl _, by decide, rfl, rfl⟩⟩, by simp, (Below.refl _ _).alloc (Nat.le_refl _) _⟩
/-- calls and blocks of their own leave it -/
theorem GS.keep {w wr w' : World} {v : Value} {es : List EN} (h : GS w wr v es) (hb : Below wr.heap.size wr w') : GS w w' v es :=
  ⟨owns_below h.1 hb, fun e he => ⟨(h.2.1 e he).1, (h.2.1 e he).2.move hb.size fun b hl hp => ⟨hb.block b hl, hp⟩⟩, h.2.2.trans (hb.mono h.2.2.size)⟩
theorem gs_new {w wr w' : World} {v v' : Value} {es : List EN} {o : Obj} {e : EN} (h : GS w wr v es) (he : mayE e.t e.x e.c = true) (hl : e.lr (fun b => v.ownBlock ≠ some b ∧ w.heap.size ≤ b) wr) (own2 : w'.ownsRow w.heap.size 46 7 v' (es.length + 1) (enCells es ++ enCells [e])) (hg : (wr.alloc o).grownBy w' v.ownBlock) (hn : v'.ownBlock = v.ownBlock ∨ v'.ownBlock = some (wr.heap.size + 1)) : GS w w' v' (es ++ [e]) := by
  have hsz : wr.heap.size ≤ w'.heap.size := Nat.le_trans (by simp) hg.size
  have hmv : ∀ b, b < wr.heap.size → (v.ownBlock ≠ some b ∧ w.heap.size ≤ b) → w'.heap[b]? = wr.heap[b]? ∧ (v'.ownBlock ≠ some b ∧ w.heap.size ≤ b) := by
    intro b hb hp'
    obtain ⟨hp, hq⟩ := hp'
    refine ⟨(hg.block b (by simp; omega) (fun e => hp e.symm)).trans (Below.heap_alloc _ _ _ hb), ?_, hq⟩
    rcases hn with hn | hn
    · rw [hn]; exact hp
    · rw [hn]
      intro e
      simp at e
      omega
  refine ⟨?_, ?_, ?_⟩
  · rw [List.length_append, ← enCells_append]; exact own2
  · intro f hf
    rcases List.mem_append.1 hf with q | q
    · exact ⟨(h.2.1 f q).1, (h.2.1 f q).2.move hsz hmv⟩
    · rw [List.mem_singleton.1 q]
      exact ⟨he, hl.move hsz hmv⟩
  · exact ((h.2.2.alloc h.2.2.size o).grown hg (by have := h.2.2.size; simp; omega) (fun k e => (h.1.lt k e).1))
def Near16S (w : World) (ev : Ending) (w' : World) : Prop := ∃ v es, ev = .returned v ∧ GS w w' v es ∧ es.length ≤ 6
set_option maxHeartbeats 6400000 in
set_option maxRecDepth 100000 in
theorem near16S (rs : List EN) (fr : Int) (w : World) (v : Value) (hv : Elts w EN.cells 7 v rs) (hrs : ∀ r ∈ rs, r.at_ w) :
    Calls Try.prog 7 #[v, .int .i64 fr] w (Near16S w) := by
  obtain ⟨i0, hi, hz0, hz1, hz2⟩ := info_parts einfoN
  obtain ⟨av, cap, rfl, hlc, hcm, hel⟩ := hv
  have hel' : Elts w EN.cells 7 (.slice av rs.length cap) rs := ⟨av, cap, rfl, hlc, hcm, hel⟩
  have HV := Lib.hid (And.intro hel' hrs)
  obtain ⟨n, hn⟩ : ∃ n, rs.length = n := ⟨_, rfl⟩
  rw [hn] at hlc
  rw [hn]
  rw [hn] at HV
  have HN := Lib.hid hn
  unfold maxLen at hcm
  have HS := Lib.hid (gs_start w)
  clear hrs hn hel hel'
  go_enter Try.func7, Try.ntmps7
  go_upto_block 0 with fail
  generalize w.alloc (.cells #[] 46) = W at *
  go_cut [5, 6, 7] from 13 to 43 (fun ov _ _ wx => ∃ v es, ov = v ∧ Hid (GS w wx v es) ∧ es.length ≤ 6)
  case first =>
    go_wp2_with fail
    go_loopw [5, 6, 7] (fun ov tv iv wr => ∃ (j : Nat) (z : Int) (v : Value) (es : List EN), j ≤ 6 ∧ iv = .int .i64 j ∧ tv = .int .i64 z ∧ ov = v ∧ Hid (GS w wr v es) ∧ es.length ≤ j) (fun _ _ i _ => 6 - (intOf i).toNat)
    case atStart => exact ⟨0, _, _, [], by omega, rfl, rfl, rfl, HS, by simp⟩
    case round =>
      obtain ⟨j, z, v, es, hj, rfl, rfl, rfl, HG, hle⟩ := hrel
      clear HS
      obtain ⟨ov, oc, rfl⟩ := HG.out.form
      by_cases hin : j < n ∧ j < 6
      · obtain ⟨hi1, hi2⟩ := hin
        have hi1' : (j : Int) < (n : Int) := by omega
        have hi2' : (j : Int) < 6 := by omega
        obtain ⟨r, hrj⟩ : ∃ r, rs[j]? = some r := ⟨_, List.getElem?_eq_getElem (by have := HN.out; omega)⟩
        have hra := HV.out.2 r (List.mem_of_getElem? hrj)
        obtain ⟨-, g, off, rfl, hg, hc⟩ := HV.out.1.at_ hrj
        have l0 : wr.cell? ⟨g, off + j * 7, none⟩ = some (.int .i64 r.t) := (HG.out.2.2.cell (p := ⟨g, off + j * 7, none⟩) hg).trans (hc 0 _ rfl)
        have l1 : wr.cell? ⟨g, off + j * 7 + 1, none⟩ = some (.int .i64 r.x) := (HG.out.2.2.cell (p := ⟨g, off + j * 7 + 1, none⟩) hg).trans (hc 1 _ rfl)
        have l2 : wr.cell? ⟨g, off + j * 7 + 2, none⟩ = some (.int .i64 r.c.e) := (HG.out.2.2.cell (p := ⟨g, off + j * 7 + 2, none⟩) hg).trans (hc 2 _ rfl)
        have l3 : wr.cell? ⟨g, off + j * 7 + 3, none⟩ = some (.int .i64 r.c.b) := (HG.out.2.2.cell (p := ⟨g, off + j * 7 + 3, none⟩) hg).trans (hc 3 _ rfl)
        have l4 : wr.cell? ⟨g, off + j * 7 + 4, none⟩ = some (.int .i64 r.c.k) := (HG.out.2.2.cell (p := ⟨g, off + j * 7 + 4, none⟩) hg).trans (hc 4 _ rfl)
        have l5 : wr.cell? ⟨g, off + j * 7 + 5, none⟩ = some (.slice r.a1 r.c.M.length r.q1) := (HG.out.2.2.cell (p := ⟨g, off + j * 7 + 5, none⟩) hg).trans (hc 5 _ rfl)
        have l6 : wr.cell? ⟨g, off + j * 7 + 6, none⟩ = some (.slice r.a2 r.c.C.length r.q2) := (HG.out.2.2.cell (p := ⟨g, off + j * 7 + 6, none⟩) hg).trans (hc 6 _ rfl)
        have c0w : ∀ w', Below wr.heap.size wr w' → w'.cell? ⟨g, off + j * 7, none⟩ = some (.int .i64 r.t) := fun w' hb => (hb.cell (p := ⟨g, off + j * 7, none⟩) (Nat.lt_of_lt_of_le hg HG.out.2.2.size)).trans l0
        have H0w := Lib.hid c0w
        have cN := near13 r wr (hra.below HG.out.2.2)
        clear hra hc hrj c0w hg
        go_wp2_with fail
        refine Calls.mono cN ?_
        rintro ev wN ⟨t0, y, de, db, dk, n1, n2, a1, p1, a2, p2, rfl, hD, hbN⟩
        clear cN l0 l1 l2 l3 l4 l5 l6
        have hba : Below wN.heap.size wN (wN.alloc (.cells #[.int .i64 t0, .int .i64 y, .int .i64 de, .int .i64 db, .int .i64 dk, .slice a1 n1 p1, .slice a2 n2 p2] 46)) := (Below.refl _ _).alloc (Nat.le_refl _) _
        have hK := heap_alloc_self wN (.cells #[.int .i64 t0, .int .i64 y, .int .i64 de, .int .i64 db, .int .i64 dk, .slice a1 n1 p1, .slice a2 n2 p2] 46)
        have hG1 := (HG.out.keep hbN).keep hba
        have hbA : Below wr.heap.size wr (wN.alloc (.cells #[.int .i64 t0, .int .i64 y, .int .i64 de, .int .i64 db, .int .i64 dk, .slice a1 n1 p1, .slice a2 n2 p2] 46)) := hbN.trans (hba.mono hbN.size)
        have k0 := H0w.out _ hbA
        have hNr : wr.heap.size ≤ wN.heap.size := hbN.size
        obtain ⟨M, C, rfl, ⟨rfl, hs1, hs2⟩, s1, s2, o1, o2⟩ := hD
        have hlr : (⟨t0, y, ⟨de, db, dk, M, C⟩, a1, p1, a2, p2⟩ : EN).lr (fun b => wr.heap.size < b) wN := ⟨lr_of rfl s1 o1, lr_of rfl s2 o2⟩
        clear s1 s2 o1 o2
        have HX := Lib.hid (And.intro hK (And.intro hG1 (And.intro hlr (And.intro hbA hba))))
        clear hba hK hG1 hlr hbA hbN H0w
        go_upto_region 6 with fail
        have m1 : bits .and .i64 r.t 1 = r.t % 2 := mask_mod r.t 1 1 (by decide) (by decide)
        generalize r.t % 2 = B at m1
        generalize wN.alloc (.cells #[.int .i64 t0, .int .i64 y, .int .i64 de, .int .i64 db, .int .i64 dk, .slice a1 M.length p1, .slice a2 C.length p2] 46) = wA at *
        go_upto_region 7 with fail
        generalize wrap64 (z + B) = z2 at *
        clear m1 k0
        obtain ⟨hK, hG1, hlr, hbA, hba⟩ := HX.out
        clear HX
        have d0 := cell_atD hK 0 (v := .int .i64 t0) rfl
        have d1 := cell_atD hK 1 (v := .int .i64 y) rfl
        have d2 := cell_atD hK 2 (v := .int .i64 de) rfl
        have d3 := cell_atD hK 3 (v := .int .i64 db) rfl
        have d4 := cell_atD hK 4 (v := .int .i64 dk) rfl
        have d5 := cell_atD hK 5 (v := .slice a1 M.length p1) rfl
        have d6 := cell_atD hK 6 (v := .slice a2 C.length p2) rfl
        have fz : ∀ i, wA.frozen? ⟨wN.heap.size, i, none⟩ = false := fun i => by simp [World.frozen?, hK]
        have g1 : (wA.setCell ⟨wN.heap.size, 0, none⟩ (.int .i64 z2)).heap[wN.heap.size]? = some (.cells #[.int .i64 z2, .int .i64 y, .int .i64 de, .int .i64 db, .int .i64 dk, .slice a1 M.length p1, .slice a2 C.length p2] 46) := heap_set_self hK 0 _
        have hso : ∀ k, k ≠ wN.heap.size → (wA.setCell ⟨wN.heap.size, 0, none⟩ (.int .i64 z2)).heap[k]? = wA.heap[k]? := fun k hk => heap_setCell_other _ _ _ _ hk
        have hb2 : Below wr.heap.size wr (wA.setCell ⟨wN.heap.size, 0, none⟩ (.int .i64 z2)) := hbA.setCell (p := ⟨wN.heap.size, 0, none⟩) hNr _
        have hlr2 : (⟨z2, y, ⟨de, db, dk, M, C⟩, a1, p1, a2, p2⟩ : EN).lr (fun b => wr.heap.size < b) (wA.setCell ⟨wN.heap.size, 0, none⟩ (.int .i64 z2)) := EN.lr.move (e := ⟨z2, y, ⟨de, db, dk, M, C⟩, a1, p1, a2, p2⟩) hlr (by simpa [World.setCell] using hba.size) fun b hb hp => ⟨(hso b (by omega)).trans (hba.block b hb), hp⟩
        have HX := Lib.hid (And.intro g1 (And.intro hb2 hlr2))
        clear hK hG1 hlr hbA hba g1 hso hb2 hlr2
        go_upto_region 8 with fail
        clear fz d0 d1 d2 d3 d4 d5 d6
        generalize wA.setCell ⟨wN.heap.size, 0, none⟩ (.int .i64 z2) = wB at *
        obtain ⟨hK, hb2, hlr⟩ := HX.out
        clear HX
        have hG1 := HG.out.keep hb2
        have hbrow : ∀ b, (Value.slice ov es.length oc).ownBlock = some b → b < wr.heap.size := fun b q => by obtain ⟨c, hc⟩ := own_typeN HG.out.1 q; exact lt_heap hc
        have hlr2 : (⟨z2, y, ⟨de, db, dk, M, C⟩, a1, p1, a2, p2⟩ : EN).lr (fun b => (Value.slice ov es.length oc).ownBlock ≠ some b ∧ w.heap.size ≤ b) wB := hlr.move (Nat.le_refl _) fun b hb hp => ⟨rfl, fun q => by have := hbrow b q; omega, by have := HG.out.2.2.size; omega⟩
        have d0 := cell_atD hK 0 (v := .int .i64 z2) rfl
        have d1 := cell_atD hK 1 (v := .int .i64 y) rfl
        have d2 := cell_atD hK 2 (v := .int .i64 de) rfl
        have d3 := cell_atD hK 3 (v := .int .i64 db) rfl
        have d4 := cell_atD hK 4 (v := .int .i64 dk) rfl
        have d5 := cell_atD hK 5 (v := .slice a1 M.length p1) rfl
        have d6 := cell_atD hK 6 (v := .slice a2 C.length p2) rfl
        have cm := rmayE z2 y ⟨de, db, dk, M, C⟩ a1 a2 p1 p2 wB hlr2.at_
        simp only at cm
        have HX := Lib.hid (And.intro hK (And.intro hG1 hlr2))
        clear hK hG1 hb2 hlr hbrow hlr2
        rcases hm : mayE z2 y ⟨de, db, dk, M, C⟩
        · rw [hm] at cm
          clear hm
          go_wp2_with fail
          refine Calls.mono cm ?_
          rintro ev wC ⟨rfl, hbC⟩
          have HF := Lib.hid (HX.out.2.1.keep hbC)
          clear cm hbC HX d0 d1 d2 d3 d4 d5 d6
          go_wp2_with fail
          go_roundw
          case rel => exact ⟨j + 1, _, _, es, by omega, by go_num, rfl, rfl, HF, by omega⟩
          case measure => simp [intOf]; omega
        · rw [hm] at cm
          have HM := Lib.hid hm
          clear hm
          go_wp2_with fail
          refine Calls.mono cm ?_
          rintro ev wC ⟨rfl, hbC⟩
          have hK := below_at hbC (lt_heap HX.out.1) HX.out.1
          have hG := HX.out.2.1.keep hbC
          have hlr : (⟨z2, y, ⟨de, db, dk, M, C⟩, a1, p1, a2, p2⟩ : EN).lr (fun b => (Value.slice ov es.length oc).ownBlock ≠ some b ∧ w.heap.size ≤ b) wC := HX.out.2.2.move hbC.size fun b hb hp => ⟨hbC.block b hb, hp⟩
          clear cm hbC HX d0 d1 d2 d3 d4 d5 d6
          have d0 := cell_atD hK 0 (v := .int .i64 z2) rfl
          have d1 := cell_atD hK 1 (v := .int .i64 y) rfl
          have d2 := cell_atD hK 2 (v := .int .i64 de) rfl
          have d3 := cell_atD hK 3 (v := .int .i64 db) rfl
          have d4 := cell_atD hK 4 (v := .int .i64 dk) rfl
          have d5 := cell_atD hK 5 (v := .slice a1 M.length p1) rfl
          have d6 := cell_atD hK 6 (v := .slice a2 C.length p2) rfl
          have HX := Lib.hid (And.intro hG hlr)
          clear hK hG hlr
          have hes6 : es.length ≤ 6 := by omega
          have hwcs : w.heap.size ≤ wC.heap.size := HX.out.1.2.2.size
          go_wp2_with (at_builtin; refine wp_appE Try.underlying25 hi hz0 hz1 hz2 rfl (by decide) rfl (.tmp 40) (.tmp 42) rfl w.heap.size _ _ _ rfl (HX.out.1.1.alloc _) _ _ 1 (enCells [⟨z2, y, ⟨de, db, dk, M, C⟩, a1, p1, a2, p2⟩]) rfl (SR.lit _ _ #[.int .i64 z2, .int .i64 y, .int .i64 de, .int .i64 db, .int .i64 dk, .slice a1 M.length p1, .slice a2 C.length p2] 7 1 (by decide) rfl) (by decide) (enCells_one _) (by unfold maxLen; omega) (by omega) (by simp; omega) ?_)
          intro v2 wD own2 hg2 hn2
          have HF := Lib.hid (gs_new HX.out.1 HM.out HX.out.2 own2 hg2 hn2)
          obtain ⟨a3, c3, rfl⟩ := owns_form3 own2
          clear own2 hg2 hn2 HX d0 d1 d2 d3 d4 d5 d6
          go_wp2_with fail
          go_roundw
          case rel => exact ⟨j + 1, _, _, _, by omega, by go_num, rfl, rfl, HF, by simp; omega⟩
          case measure => simp [intOf]; omega
      · have hout : ¬ (j < n) ∨ (j < n ∧ ¬ (j < 6)) := by omega
        have HF := Lib.hid (show ∃ v es', Value.slice ov es.length oc = v ∧ Hid (GS w wr v es') ∧ es'.length ≤ 6 from ⟨_, es, rfl, HG, by omega⟩)
        rcases hout with ho | ⟨ho, ho2⟩
        · have ho' : ¬ ((j : Int) < (n : Int)) := by omega
          go_wp2_with fail
          go_meet
          exact HF.out
        · have ho' : (j : Int) < (n : Int) := by omega
          have ho2' : ¬ ((j : Int) < 6) := by omega
          go_wp2_with fail
          go_meet
          exact HF.out
  case rest =>
    obtain ⟨v, es, rfl, HG, hle⟩ := hcut
    go_wp2_with fail
    go_ret
    exact ⟨_, es, rfl, HG.out, hle⟩
end Go.Proofs.Ytkdmnhmlkcejfaa
