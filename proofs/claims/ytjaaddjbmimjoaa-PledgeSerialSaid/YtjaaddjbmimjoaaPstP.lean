/-
  PledgeSerial's law.
-/
import Derived.Test.YtjaaddjbmimjoaaPstS
namespace Go.Proofs.Ytjaaddjbmimjoaa
open Go.RowKit
set_option linter.unusedVariables false
set_option linter.unusedSimpArgs false

def evC (l : List Ev) : List Value := l.flatMap Ev.c
theorem evC_app (a b : List Ev) : evC (a ++ b) = evC a ++ evC b := by simp [evC]
theorem evC_one (l : List Ev) : ∀ y ∈ evC l, y.oneCell' = true := by
  intro y hy
  simp only [evC, List.mem_flatMap] at hy
  obtain ⟨u, hu, hy⟩ := hy
  simp only [Ev.c, List.mem_cons, List.not_mem_nil, or_false] at hy
  rcases hy with rfl | rfl | rfl | rfl | rfl | rfl | rfl | rfl | rfl | rfl <;> rfl
theorem einfo : (Try.prog.info? 97).map (fun i => (i.zero, i.size, i.bytes)) = some (some (.agg #[.bool false, .int .i64 0, .int .i64 0, .int .i64 0, .int .i64 0, .int .i64 0, .string ⟨#[]⟩, .bool false, .int .i64 0, .string ⟨#[]⟩]), 10, 96) := by kernel_rfl
/-- a history's own row lies in no block of plain memory's -/
theorem apart_v {N p c n : Nat} {hv : Value} {L : List ByteArray} {E : List Ev} {w : World} (hV : VAt p c L w) (hL : 0 < L.length) (ho : w.ownsRow N 97 10 hv n (evC E)) (hE : E ≠ []) : hv.ownBlock ≠ some p := by
  intro e
  obtain ⟨a, cap, e1, h1, h2, h3, h4⟩ := hV.2.2.1
  injection e1 with e1 e2 e3
  subst e1
  obtain ⟨b, off, e4, hb, hc⟩ := h4.resolve_left (by omega)
  injection e4 with e4
  injection e4 with e4 e5
  subst e4 e5
  have c1 := hc 0 (.string L[0]) (by simp [sCellsF, hL])
  obtain ⟨x, t, rfl⟩ := List.exists_cons_of_ne_nil hE
  have c2 := ho.cells e 0 (.bool x.ans) rfl
  have hadd : (⟨p, 0, none⟩ : Addr).add 0 = ⟨p, 0, none⟩ := by unfold Addr.add; split <;> simp_all
  rw [hadd] at c2
  rw [c1] at c2
  cases c2
structure PRel (N Y : Nat) (w : World) (r : List Stp) (hv : Value) (wr : World) : Prop where
  v : ∃ p c, VAt p c (vR r) wr ∧ wr.heap[Y]? = some (.cells #[.slice (some ⟨p, 0, none⟩) 4 c] 82) ∧ p ≠ Y ∧ hv.ownBlock ≠ some p
  blks : Blks (vR r)
  row : wr.ownsRow N 97 10 hv (evR r).length (evC (evR r))
  low : Below N w wr
  big : N ≤ wr.heap.size
  ok : ∀ e ∈ evR r, EvOk e
  nf : ∀ x ∈ vR r, NF x
theorem PRel.below {N Y : Nat} {w wr w' : World} {r : List Stp} {hv : Value} (h : PRel N Y w r hv wr) (hb : Below wr.heap.size wr w') : PRel N Y w r hv w' := by
  obtain ⟨p, c, h1, h2, h3, h4⟩ := h.v
  exact ⟨⟨p, c, h1.below hb, below_at hb (lt_heap h2) h2, h3, h4⟩, h.blks, owns_below h.row hb, h.low.trans (hb.mono h.big), Nat.le_trans h.big hb.size, h.ok, h.nf⟩
theorem own_moveP {w w' : World} {base : Nat} {e : TypeId} {size n : Nat} {v : Value} {xs : List Value} (h : w.ownsRow base e size v n xs) (hk : ∀ g, v.ownBlock = some g → w'.heap[g]? = w.heap[g]?) : w'.ownsRow base e size v n xs := by
  refine ⟨h.1, ?_⟩
  rcases h.2 with hn | ⟨g, cap, cur, rfl, hb, hg, rest⟩
  · exact .inl hn
  · exact .inr ⟨g, cap, cur, rfl, hb, (hk g rfl).trans hg, rest⟩
theorem VAt.grown {p c : Nat} {L : List ByteArray} {w w' : World} {row : Option Nat} (h : VAt p c L w) (hg : w.grownBy w' row) (hne : row ≠ some p) : VAt p c L w' := by
  cases row with
  | none => exact h.below ⟨hg.os, hg.tape, hg.output, hg.size, fun k hk => hg.block k hk (by simp)⟩
  | some g => exact h.only (g := g) ⟨hg.os, hg.tape, hg.output, hg.size, fun k hk hn => hg.block k hk (fun e => hn (Option.some.inj e))⟩ (fun e => hne (by rw [e]))
theorem PRel.step {N Y p7 c7 : Nat} {w w6 w7 w11 : World} {r : List Stp} {hv v' : Value} {z o : Obj} (h6 : PRel N Y w r hv w6) (s : Stp) (hNY : N < Y) (hr : r.length ≤ 20) (hA : (Lit.int .i64 s.A).wf = true) (hL : (Lit.int .i64 s.L).wf = true) (hD : s.D.size ≤ maxLen) (ho : s.out.size ≤ 128) (hw1 : s.W = 1 → ∃ m, FirstB s.D m)
    (hb7 : Below w6.heap.size w6 w7) (hV7 : VAt p7 c7 (stepV s (vR r)) w7) (hB7 : Blks (stepV s (vR r))) (hpY : p7 ≠ Y) (hpo : hv.ownBlock ≠ some p7)
    (hown : w11.ownsRow N 97 10 v' ((evR r).length + 2) (evC (evR r) ++ evC [stA r.length s, stR r.length s]))
    (hg : (((w7.alloc z).setCell ⟨Y, 0, none⟩ (.slice (some ⟨p7, 0, none⟩) 4 c7)).alloc o).grownBy w11 hv.ownBlock) : PRel N Y w (s :: r) v' w11 := by
  obtain ⟨p, c, -, hY6, -, -⟩ := h6.v
  have hb8 : Below w6.heap.size w6 (w7.alloc z) := hb7.alloc hb7.size z
  have h8 := h6.below hb8
  have hY8 := below_at hb8 (lt_heap hY6) hY6
  have hY9 := heap_set_self hY8 0 (.slice (some ⟨p7, 0, none⟩) 4 c7)
  have hoY : hv.ownBlock ≠ some Y := own_size h8.row hY8 (by decide)
  have oY : Only Y (w7.alloc z) ((w7.alloc z).setCell ⟨Y, 0, none⟩ (.slice (some ⟨p7, 0, none⟩) 4 c7)) := (Only.refl _ _).set 0 _
  have hrow9 : ((w7.alloc z).setCell ⟨Y, 0, none⟩ (.slice (some ⟨p7, 0, none⟩) 4 c7)).ownsRow N 97 10 hv (evR r).length (evC (evR r)) := own_moveP h8.row fun g e => heap_setCell_other _ _ _ _ (fun q => hoY (by rw [e]; exact congrArg some q))
  have hV9 : VAt p7 c7 (stepV s (vR r)) ((w7.alloc z).setCell ⟨Y, 0, none⟩ (.slice (some ⟨p7, 0, none⟩) 4 c7)) := (hV7.below ((Below.refl _ _).alloc (Nat.le_refl _) z)).only oY hpY
  have hlow9 : Below N w ((w7.alloc z).setCell ⟨Y, 0, none⟩ (.slice (some ⟨p7, 0, none⟩) 4 c7)) := h8.low.setCell (by show N ≤ Y; omega) _
  have hbig9 : N ≤ ((w7.alloc z).setCell ⟨Y, 0, none⟩ (.slice (some ⟨p7, 0, none⟩) 4 c7)).heap.size := Nat.le_trans h8.big oY.size
  generalize (w7.alloc z).setCell ⟨Y, 0, none⟩ (.slice (some ⟨p7, 0, none⟩) 4 c7) = w9 at *
  have hb10 : Below w9.heap.size w9 (w9.alloc o) := (Below.refl _ _).alloc (Nat.le_refl _) o
  have hrow10 := owns_below hrow9 hb10
  have hY10 := below_at hb10 (lt_heap hY9) hY9
  have hV11 := (hV9.below hb10).grown hg hpo
  have hown' : w11.ownsRow N 97 10 v' (evR (s :: r)).length (evC (evR (s :: r))) := by
    rw [evr_cons, evC_app, List.length_append]
    exact hown
  refine ⟨⟨p7, c7, hV11, keep_typed hrow10 hg hY10 (by decide), hpY, apart_v hV11 (by have := vr_len (s :: r); have e : vR (s :: r) = stepV s (vR r) := rfl; rw [← e]; omega) hown' (by rw [evr_cons]; simp)⟩, hB7, hown', below_app (hlow9.trans (hb10.mono hbig9)) hg hrow10 (Nat.le_refl _) (Nat.le_trans hbig9 hb10.size), Nat.le_trans (Nat.le_trans hbig9 hb10.size) hg.size, fun e he => ?_, nf_step s h6.nf hw1⟩
  rw [evr_cons] at he
  have hid : (Lit.int .i64 ((r.length + 1 : Nat) : Int)).wf = true := wf_of (by omega)
  rcases List.mem_append.1 he with q | q
  · exact h6.ok e q
  · simp only [List.mem_cons, List.not_mem_nil, or_false] at q
    rcases q with rfl | rfl
    · exact ⟨hid, hA, hL, hD, by show (0 : Nat) ≤ _; omega⟩
    · exact ⟨hid, by show (Lit.int .i64 0).wf = true; decide, by show (Lit.int .i64 0).wf = true; decide, by show (0 : Nat) ≤ _; omega, by show s.out.size ≤ maxLen; unfold maxLen; omega⟩
theorem VAt.cell {p c : Nat} {L : List ByteArray} {w : World} (h : VAt p c L w) {b : Nat} {x : ByteArray} (hb : L[b]? = some x) : w.cell? ⟨p, b, none⟩ = some (.string x) := by
  obtain ⟨a, cap, e1, h1, h2, h3, h4⟩ := h.2.2.1
  injection e1 with e1 e2 e3
  subst e1
  have hl := (List.getElem?_eq_some_iff.1 hb).1
  obtain ⟨g, off, e4, hg, hc⟩ := h4.resolve_left (by omega)
  injection e4 with e4
  injection e4 with e4 e5
  subst e4 e5
  have := hc b (.string x) (by simp [sCellsF, hb])
  rwa [Nat.zero_add] at this
theorem meas_20 {j : Nat} (h : (j : Int) < 20) : 20 - (intOf (.int .i64 ((j : Int) + 1))).toNat < 20 - (intOf (.int .i64 (j : Int))).toNat := by
  show 20 - ((j : Int) + 1).toNat < 20 - ((j : Int)).toNat
  omega
def PSerP (w : World) (e : Ending) (w' : World) : Prop := e = .returned (.bool true) ∧ Below w.heap.size w w'
set_option maxHeartbeats 6400000 in
set_option maxRecDepth 100000 in
theorem pserial_law (a : Option Addr) (len cap : Nat) (k : Int) (w : World) (hf : Fits w (.slice (.two (.int .i64) (.two (.int .i64) (.two (.int .i64) (.two .str (.two .bool .unit)))))) [.slice a len cap]) (hk : (Lit.int .i64 k).wf = true) :
    Calls Try.prog 6 #[.slice a len cap, .int .i64 k] w (PSerP w) := by
  unfold PSerP
  obtain ⟨i0, hi, hz0, hz1, hz2⟩ := info_parts einfo
  obtain ⟨rs, hrs, hel, hok⟩ := fits_rows (c := AskF.cells) (good := AskF.ok) fits_askF hf
  have hlc := hf.slice.1
  have hcm := hf.slice.2.1
  unfold maxLen at hcm
  have HE := Lib.hid (And.intro hrs (And.intro hel hok))
  clear hrs hel hok hf
  have b0 : Below w.heap.size w (w.alloc (.cells #[] 97)) := (Below.refl _ _).alloc (Nat.le_refl _) _
  have hown := World.ownsRow_lit (base := w.heap.size) (e := 97) (size := 10) w #[] 0 (Nat.le_refl _) (by decide) rfl
  have cV := rnew35 4 (w.alloc (.cells #[] 97)) (by decide)
  unfold RNewP at cV
  have H0 := Lib.hid (And.intro b0 hown)
  obtain ⟨N, hN⟩ : ∃ N, w.heap.size = N := ⟨_, rfl⟩
  rw [hN] at H0
  have hz : (w.alloc (.cells #[] 97)).heap.size = N + 1 := by simp [hN]
  clear b0 hown
  go_enter Try.func6, Try.ntmps6
  go_wp2_with fail
  refine Calls.mono cV ?_
  rintro e w2 ⟨v2, rfl, hv2, hb2⟩
  have h4 : (4 : Nat) = (List.replicate 4 (zeroL 32)).length := by simp
  obtain ⟨p, c3, rfl, hV3, hp3, -⟩ := VAt.owns (L := List.replicate 4 (zeroL 32)) (by rw [← h4]; exact hv2) (by decide)
  rw [← h4]
  have hb4 : Below w2.heap.size w2 (w2.alloc (.cells #[.slice (some ⟨p, 0, none⟩) 4 c3] 82)) := (Below.refl _ _).alloc (Nat.le_refl _) _
  have hb24 : Below (N + 1) (w.alloc (.cells #[] 97)) (w2.alloc (.cells #[.slice (some ⟨p, 0, none⟩) 4 c3] 82)) := by
    rw [← hz]
    exact hb2.trans (hb4.mono hb2.size)
  have HR := Lib.hid (show PRel N w2.heap.size w [] (.slice (some ⟨N, 0, none⟩) 0 0) (w2.alloc (.cells #[.slice (some ⟨p, 0, none⟩) 4 c3] 82)) from
    ⟨⟨p, c3, hV3.below hb4, heap_alloc_self _ _, by have := hV3.2.2.2; omega, fun e => by have e1 : N = p := Option.some.inj e; rw [hz] at hp3; omega⟩, fun s hs => by rw [List.eq_of_mem_replicate hs, zeroL_size],
     owns_below (show (w.alloc (.cells #[] 97)).ownsRow N 97 10 (.slice (some ⟨N, 0, none⟩) 0 0) (evR []).length (evC (evR [])) from H0.out.2) (by rw [hz]; exact hb24),
     H0.out.1.trans (hb24.mono (by omega)), by have := hb24.size; omega, fun e he => by simp [evR] at he, fun x hx => by rw [List.eq_of_mem_replicate hx]; exact nf_zero⟩)
  obtain ⟨Y, hY⟩ : ∃ Y, w2.heap.size = Y := ⟨_, rfl⟩
  rw [hY] at HR
  have hNY : N < Y := by have := hb2.size; omega
  clear hv2 hb2 hV3 hp3 hb4 hb24 h4 cV H0 hz
  go_upto_region 2 with fail
  try rw [hY]
  generalize w2.alloc (.cells #[.slice (some ⟨p, 0, none⟩) 4 c3] 82) = w3 at *
  clear hY
  go_wp2_with fail
  go_loopw [5, 7] (fun hv iv wr => ∃ r : List Stp, r.length ≤ len ∧ r.length ≤ 20 ∧ iv = .int .i64 (r.length : Int) ∧ Hid (PRel N Y w r hv wr)) (fun _ iv _ => 20 - (intOf iv).toNat)
  case atStart => exact ⟨[], Nat.zero_le _, by decide, rfl, HR⟩
  case round =>
    obtain ⟨r, hr1, hr2, rfl, HRel⟩ := hrel
    clear HR
    obtain ⟨j, hj⟩ : ∃ j, r.length = j := ⟨_, rfl⟩
    rw [hj] at hr1 hr2 ⊢
    by_cases hin : j < len ∧ (j : Int) < 20
    · obtain ⟨hi1, hi2⟩ := hin
      have hi1' : (j : Int) < (len : Int) := by omega
      obtain ⟨x, hx⟩ : ∃ x, rs[j]? = some x := ⟨rs[j]'(by rw [HE.out.1]; exact hi1), List.getElem?_eq_getElem _⟩
      obtain ⟨-, b0, off, rfl, hb0, hcell⟩ := (HE.out.2.1.below (HRel.out.low.mono (Nat.le_of_eq hN))).at_ hx
      have e0 : wr.cell? ⟨b0, off + j * 5, none⟩ = some (.int .i64 x.W) := hcell 0 (.int .i64 x.W) rfl
      have e1 : wr.cell? ⟨b0, off + j * 5 + 1, none⟩ = some (.int .i64 x.A) := hcell 1 (.int .i64 x.A) rfl
      have e2 : wr.cell? ⟨b0, off + j * 5 + 2, none⟩ = some (.int .i64 x.L) := hcell 2 (.int .i64 x.L) rfl
      have e3 : wr.cell? ⟨b0, off + j * 5 + 3, none⟩ = some (.string x.D) := hcell 3 (.string x.D) rfl
      have e4 : wr.cell? ⟨b0, off + j * 5 + 4, none⟩ = some (.bool x.S) := hcell 4 (.bool x.S) rfl
      have hxo := HE.out.2.2 x (List.mem_of_getElem? hx)
      have co := anear1 x.W x.A x.L x.D x.S 4 j wr hxo.1 hxo.2.1 hxo.2.2.1 (by decide) (wf_of (by omega)) hxo.2.2.2
      unfold AskPost1 askA at co
      clear hcell hx hb0 hxo
      go_wp2_with fail
      refine Calls.mono co ?_
      rintro e w5 ⟨W, A, Ln, D, S, rfl, q1, q2, q3, q4, q5, hb5⟩
      have b6 : Below w5.heap.size w5 (w5.alloc (.cells #[.int .i64 W, .int .i64 A, .int .i64 Ln, .string D, .bool S] 85)) := (Below.refl _ _).alloc (Nat.le_refl _) _
      have b56 : Below wr.heap.size wr (w5.alloc (.cells #[.int .i64 W, .int .i64 A, .int .i64 Ln, .string D, .bool S] 85)) := hb5.trans (b6.mono hb5.size)
      have H6 := Lib.hid (And.intro (HRel.out.below b56) (And.intro (heap_alloc_self w5 (.cells #[.int .i64 W, .int .i64 A, .int .i64 Ln, .string D, .bool S] 85)) (And.intro q1 (And.intro q2 (And.intro q3 (And.intro q4 (Lib.hid q5)))))))
      obtain ⟨X, hX⟩ : ∃ X, w5.heap.size = X := ⟨_, rfl⟩
      rw [hX] at H6
      clear co e0 e1 e2 e3 e4 hb5 b6 b56 q1 q2 q3 q4 q5 HRel
      go_upto_region 6 with fail
      try rw [hX]
      generalize w5.alloc (.cells #[.int .i64 W, .int .i64 A, .int .i64 Ln, .string D, .bool S] 85) = w6 at *
      clear hX
      obtain ⟨p', c', hV6, hY6, hpY, hhp⟩ := H6.out.1.v
      have cD := rstep ⟨W, A, Ln, D, S, ⟨#[]⟩⟩ p' c' (vR r) w6 hV6 H6.out.2.2.2.1 H6.out.2.2.2.2.1 H6.out.2.2.2.2.2.1 H6.out.1.blks (vr_len r)
      unfold RStepP at cD
      have y0 := cell_atF hY6 0 (v := .slice (some ⟨p', 0, none⟩) 4 c') rfl
      have k0 := cell_atF H6.out.2.1 0 (v := .int .i64 W) rfl
      have k1 := cell_atF H6.out.2.1 1 (v := .int .i64 A) rfl
      have k2 := cell_atF H6.out.2.1 2 (v := .int .i64 Ln) rfl
      have k3 := cell_atF H6.out.2.1 3 (v := .string D) rfl
      have k4 := cell_atF H6.out.2.1 4 (v := .bool S) rfl
      have HP := Lib.hid (And.intro hpY (And.intro hhp (And.intro hY6 (And.intro hj H6.out.1.row))))
      clear hV6 hY6 hpY hhp
      go_wp2_with fail
      refine Calls.mono cD ?_
      rintro e w7 ⟨p7, c7, out, ok, rfl, hV7, hB7, hout, hpp, hb7⟩
      have hp7Y : p7 ≠ Y := by
        rcases hpp with q | q
        · rw [q]; exact HP.out.1
        · have := lt_heap HP.out.2.2.1; omega
      have hp7h : u5.ownBlock ≠ some p7 := by
        rcases hpp with q | q
        · rw [q]; exact HP.out.2.1
        · intro e; have := (HP.out.2.2.2.2.lt p7 e).2; omega
      have hY7 := below_at hb7 (lt_heap HP.out.2.2.1) HP.out.2.2.1
      have hal := heap_alloc_self w7 (.cells #[.slice (some ⟨p7, 0, none⟩) 4 c7] 82)
      have hY8 := below_at ((Below.refl w7.heap.size w7).alloc (Nat.le_refl _) (.cells #[.slice (some ⟨p7, 0, none⟩) 4 c7] 82)) (lt_heap hY7) hY7
      have hX8 := below_at ((Below.refl w7.heap.size w7).alloc (Nat.le_refl _) (.cells #[.slice (some ⟨p7, 0, none⟩) 4 c7] 82)) (by have := lt_heap H6.out.2.1; have := hb7.size; omega) (below_at hb7 (lt_heap H6.out.2.1) H6.out.2.1)
      have z0 := cell_atF hal 0 (v := .slice (some ⟨p7, 0, none⟩) 4 c7) rfl
      have y1 := cell_atF hY8 0 (v := .slice (some ⟨p', 0, none⟩) 4 c') rfl
      have yf : ∀ i, (w7.alloc (.cells #[.slice (some ⟨p7, 0, none⟩) 4 c7] 82)).frozen? ⟨Y, i, none⟩ = false := fun i => by simp [World.frozen?, hY8]
      have hXY : X ≠ Y := fun e => by
        have h1 := H6.out.2.1
        rw [e, HP.out.2.2.1] at h1
        injection h1 with h1
        injection h1 with _ h1
        exact absurd h1 (by decide)
      have H9 := Lib.hid (And.intro hb7 (And.intro hV7 (And.intro hB7 (And.intro hp7Y (And.intro hp7h (And.intro hout (show ((w7.alloc (.cells #[.slice (some ⟨p7, 0, none⟩) 4 c7] 82)).setCell ⟨Y, 0, none⟩ (.slice (some ⟨p7, 0, none⟩) 4 c7)).heap[X]? = some (.cells #[.int .i64 W, .int .i64 A, .int .i64 Ln, .string D, .bool S] 85) by rw [heap_setCell_other _ _ _ _ (fun e => hXY e)]; exact hX8)))))))
      clear cD y0 k0 k1 k2 k3 k4 hb7 hV7 hB7 hout hp7Y hp7h hY7 hal hY8 hX8 hXY hpp
      go_upto_region 8 with fail
      obtain ⟨w9, hw9⟩ : ∃ w9, (w7.alloc (.cells #[.slice (some ⟨p7, 0, none⟩) 4 c7] 82)).setCell ⟨Y, 0, none⟩ (.slice (some ⟨p7, 0, none⟩) 4 c7) = w9 := ⟨_, rfl⟩
      try rw [hw9]
      clear z0 y1 yf
      have hX9 := H9.out.2.2.2.2.2.2
      rw [hw9] at hX9
      have k0 := cell_atF hX9 0 (v := .int .i64 W) rfl
      have k1 := cell_atF hX9 1 (v := .int .i64 A) rfl
      have k2 := cell_atF hX9 2 (v := .int .i64 Ln) rfl
      have k3 := cell_atF hX9 3 (v := .string D) rfl
      have k4 := cell_atF hX9 4 (v := .bool S) rfl
      have HW9 := Lib.hid hw9
      clear hX9 hw9
      have hrow9 : w9.ownsRow N 97 10 u5 (evR r).length (evC (evR r)) := by
        rw [← HW9.out]
        have hb8 : Below w6.heap.size w6 (w7.alloc (.cells #[.slice (some ⟨p7, 0, none⟩) 4 c7] 82)) := H9.out.1.alloc H9.out.1.size _
        have h8 := H6.out.1.below hb8
        have hY8 := below_at hb8 (lt_heap HP.out.2.2.1) HP.out.2.2.1
        exact own_moveP h8.row fun g e => heap_setCell_other _ _ _ _ (fun q => own_size h8.row hY8 (by decide) (by rw [e]; exact congrArg some q))
      have HROW := Lib.hid hrow9
      have hel : (evR r).length = 2 * j := by rw [evr_len, hj]
      have hbig : N ≤ w9.heap.size := by
        rw [← HW9.out]
        have := H9.out.1.size
        have := H6.out.1.big
        simp
        omega
      have HBIG := Lib.hid (And.intro hel hbig)
      clear hrow9 hel hbig
      go_wp2_with (at_builtin; refine wp_app Try.underlying95 hi hz0 hz1 hz2 rfl (by decide) rfl (.tmp 43) (.tmp 52) rfl N u5 (evR r).length (evC (evR r)) rfl ?c5 _ 2 (evC [stA j ⟨W, A, Ln, D, S, out⟩, stR j ⟨W, A, Ln, D, S, out⟩]) rfl (SR.lit _ _ #[.bool false, .int .i64 ((j : Int) + 1), .int .i64 0, .int .i64 W, .int .i64 A, .int .i64 Ln, .string D, .bool S, .int .i64 0, .string ⟨#[]⟩, .bool true, .int .i64 ((j : Int) + 1), .int .i64 0, .int .i64 0, .int .i64 0, .int .i64 0, .string ⟨#[]⟩, .bool false, .int .i64 0, .string out] 10 2 (by decide) rfl) ?c1 ?c2 ?c3 ?c4 ?_)
      case c5 => exact owns_below HROW.out ((Below.refl _ _).alloc (Nat.le_refl _) _)
      case c1 => exact evC_one _
      case c2 => have := HBIG.out.1; unfold maxLen; omega
      case c3 => have := HBIG.out.1; omega
      case c4 => have := HBIG.out.2; simp; omega
      intro v' w11 hown hgr
      have HF := Lib.hid (show PRel N Y w ((⟨W, A, Ln, D, S, out⟩ : Stp) :: r) v' w11 from by
        have h1 := HW9.out
        have h2 := HP.out.2.2.2.1
        subst h1
        subst h2
        exact PRel.step H6.out.1 ⟨W, A, Ln, D, S, out⟩ hNY (by omega) H6.out.2.2.2.1 H6.out.2.2.2.2.1 H6.out.2.2.2.2.2.1 H9.out.2.2.2.2.2.1 H6.out.2.2.2.2.2.2.out H9.out.1 H9.out.2.1 H9.out.2.2.1 H9.out.2.2.2.1 H9.out.2.2.2.2.1 hown hgr)
      clear hown hgr k0 k1 k2 k3 k4
      go_wp2_with fail
      go_roundw
      case rel => exact ⟨(⟨W, A, Ln, D, S, out⟩ : Stp) :: r, by simp; omega, by simp; omega, by simp [HP.out.2.2.2.1], HF⟩
      case measure => exact meas_20 hi2
    · obtain ⟨kk, hkk⟩ : ∃ kk : Nat, k % 4 = (kk : Int) := ⟨(k % 4).toNat, by omega⟩
      have hkb : bits .and .i64 k 3 = (kk : Int) := (mask_mod k 2 3 (by decide) (by decide)).trans hkk
      have hk4 : kk < 4 := by omega
      have HF := HRel
      clear HRel hkk
      have hout : ¬ ((j : Int) < (len : Int) ∧ (j : Int) < 20) := fun h => hin ⟨by omega, h.2⟩
      go_wp2_with fail
      all_goals
        go_loopw [12, 13, 15] (fun av bv iv wx => ∃ b : Nat, b ≤ 4 ∧ av = .string (catL (vR r) b) ∧ bv = .string (badL (vR r) kk b) ∧ iv = .int .i64 (b : Int) ∧ Hid (PRel N Y w r u5 wx)) (fun _ _ iv _ => 4 - (intOf iv).toNat)
        case atStart => exact ⟨0, by omega, rfl, rfl, rfl, HF⟩
        case round =>
          obtain ⟨b, hb4, rfl, rfl, rfl, HR2⟩ := hrel
          by_cases hbl : (b : Int) < 4
          · obtain ⟨x, hx⟩ : ∃ x, (vR r)[b]? = some x := ⟨_, List.getElem?_eq_getElem (by rw [vr_len]; omega)⟩
            have hxs : x.size = 32 := HR2.out.blks x (List.mem_of_getElem? hx)
            obtain ⟨p5, c5, hV5, hY5, -, -⟩ := HR2.out.v
            have y0 := cell_atF hY5 0 (v := .slice (some ⟨p5, 0, none⟩) 4 c5) rfl
            have l0 := hV5.cell hx
            have cO := fun wz hz => pof (evR r) 4 b u5 wz (Elts.below (elts_sr (c := Ev.c) (sz := 10) (rs := evR r) (fun x => rfl) (SR.owns HR2.out.row)) hz) HR2.out.ok (by rw [evr_len]; omega) (over_r r (by omega) b (by omega))
            unfold POfP at cO
            have hsu := sure_r r b (by omega)
            rw [hx] at hsu
            have hsu := Option.some.inj hsu
            rw [← hsu] at cO
            have hA1 : catL (vR r) (b + 1) = catL (vR r) b ++ x := by show catL (vR r) b ++ (vR r).getD b ⟨#[]⟩ = _; rw [List.getD_eq_getElem?_getD, hx]; rfl
            have hB1 : badL (vR r) kk (b + 1) = badL (vR r) kk b ++ (if b = kk then ⟨#[255]⟩ ++ x.extract 1 x.size else x) := by show badL (vR r) kk b ++ (if b = kk then _ ++ ((vR r).getD b ⟨#[]⟩).extract 1 _ else (vR r).getD b ⟨#[]⟩) = _; rw [List.getD_eq_getElem?_getD, hx]; rfl
            have HAB := Lib.hid (And.intro hA1 hB1)
            have hb5 : Below wr.heap.size wr wr := Below.refl _ _
            have cO1 := cO wr hb5
            have HX := Lib.hid hx
            clear hsu hA1 hB1 cO hb5 hV5 hY5 hx
            have hxi : (x.size : Int) = 32 := by omega
            have hcs := cat_size HR2.out.blks b (by rw [vr_len]; omega)
            have hbs := bad_size kk HR2.out.blks b (by rw [vr_len]; omega)
            obtain ⟨CA, hCA⟩ : ∃ CA, catL (vR r) b = CA := ⟨_, rfl⟩
            obtain ⟨CB, hCB⟩ : ∃ CB, badL (vR r) kk b = CB := ⟨_, rfl⟩
            rw [hCA, hCB] at HAB
            rw [hCA, hCB]
            rw [hCA] at hcs
            rw [hCB] at hbs
            have hcs' : CA.size ≤ 128 := by omega
            have hbs' : CB.size ≤ 128 := by omega
            clear hcs hbs
            have HCA := Lib.hid (And.intro hCA hCB)
            clear hCA hCB
            by_cases hbk : b = kk
            · have hbk' : ((b : Int) == (kk : Int)) = true := by simp [hbk]
              have HBK := Lib.hid hbk
              clear hbk
              go_upto_region 18 with fail
              go_wp2_with fail
              refine Calls.mono cO1 ?_
              rintro e w13 ⟨rfl, hb13⟩
              have hb14 : Below w13.heap.size w13 (w13.alloc (.cells #[.string x, .slice none 0 0] 99)) := (Below.refl _ _).alloc (Nat.le_refl _) _
              have hb134 : Below wr.heap.size wr (w13.alloc (.cells #[.string x, .slice none 0 0] 99)) := hb13.trans (hb14.mono hb13.size)
              have h14 := HR2.out.below hb134
              obtain ⟨p6, c6, hV6, hY6, -, -⟩ := h14.v
              have hal := heap_alloc_self w13 (.cells #[.string x, .slice none 0 0] 99)
              have H14 := Lib.hid h14
              clear cO1 y0 l0 hb13 hb14 hb134 h14
              go_upto_region 19 with fail
              generalize w13.alloc (.cells #[.string x, .slice none 0 0] 99) = w14 at *
              obtain ⟨G, hG⟩ : ∃ G, w13.heap.size = G := ⟨_, rfl⟩
              rw [hG] at hal
              try rw [hG]
              clear hG
              have g0 := cell_atF hal 0 (v := .string x) rfl
              have g1 := cell_atF hal 1 (v := .slice none 0 0) rfl
              have y0 := cell_atF hY6 0 (v := .slice (some ⟨p6, 0, none⟩) 4 c6) rfl
              have l0 := hV6.cell HX.out
              clear hal hV6 hY6
              go_quiet (fail)
              have HQ := Lib.hid (show PRel N Y w r u5 (w14.drewN nq) from ⟨(by obtain ⟨p, c, h1, h2, h3, h4⟩ := H14.out.v; exact ⟨p, c, h1.below (below_drewN' (Below.refl _ _) _), h2, h3, h4⟩), H14.out.blks, owns_below H14.out.row (below_drewN' (Below.refl _ _) _), below_drewN' H14.out.low _, H14.out.big, H14.out.ok, H14.out.nf⟩)
              clear g0 g1 y0 l0
              go_wp2_with fail
              go_roundw
              case rel => exact ⟨b + 1, by omega, by rw [HAB.out.1], by rw [HAB.out.2, if_pos HBK.out, hxs], by go_num, HQ⟩
              case measure => exact meas_4 b (by omega)
            · have hbk' : ((b : Int) == (kk : Int)) = false := beq_false_of_ne (by omega)
              have HBK := Lib.hid hbk
              clear hbk
              go_upto_region 18 with fail
              go_wp2_with fail
              refine Calls.mono cO1 ?_
              rintro e w13 ⟨rfl, hb13⟩
              have hb14 : Below w13.heap.size w13 (w13.alloc (.cells #[.string x, .slice none 0 0] 99)) := (Below.refl _ _).alloc (Nat.le_refl _) _
              have hb134 : Below wr.heap.size wr (w13.alloc (.cells #[.string x, .slice none 0 0] 99)) := hb13.trans (hb14.mono hb13.size)
              have h14 := HR2.out.below hb134
              obtain ⟨p6, c6, hV6, hY6, -, -⟩ := h14.v
              have hal := heap_alloc_self w13 (.cells #[.string x, .slice none 0 0] 99)
              have H14 := Lib.hid h14
              clear cO1 y0 l0 hb13 hb14 hb134 h14
              go_upto_region 19 with fail
              generalize w13.alloc (.cells #[.string x, .slice none 0 0] 99) = w14 at *
              obtain ⟨G, hG⟩ : ∃ G, w13.heap.size = G := ⟨_, rfl⟩
              rw [hG] at hal
              try rw [hG]
              clear hG
              have g0 := cell_atF hal 0 (v := .string x) rfl
              have g1 := cell_atF hal 1 (v := .slice none 0 0) rfl
              have y0 := cell_atF hY6 0 (v := .slice (some ⟨p6, 0, none⟩) 4 c6) rfl
              have l0 := hV6.cell HX.out
              clear hal hV6 hY6
              go_quiet (fail)
              have HQ := Lib.hid (show PRel N Y w r u5 (w14.drewN nq) from ⟨(by obtain ⟨p, c, h1, h2, h3, h4⟩ := H14.out.v; exact ⟨p, c, h1.below (below_drewN' (Below.refl _ _) _), h2, h3, h4⟩), H14.out.blks, owns_below H14.out.row (below_drewN' (Below.refl _ _) _), below_drewN' H14.out.low _, H14.out.big, H14.out.ok, H14.out.nf⟩)
              clear g0 g1 y0 l0
              go_wp2_with fail
              go_roundw
              case rel => exact ⟨b + 1, by omega, by rw [HAB.out.1], by rw [HAB.out.2, if_neg HBK.out], by go_num, HQ⟩
              case measure => exact meas_4 b (by omega)
          · obtain rfl : b = 4 := by omega
            have hBl := HR2.out.blks
            have hfst : (vR r).getD kk ⟨#[]⟩ ≠ ⟨#[255]⟩ ++ ((vR r).getD kk ⟨#[]⟩).extract 1 ((vR r).getD kk ⟨#[]⟩).size := nf_ne (HR2.out.nf _ (List.mem_of_getElem? (show (vR r)[kk]? = some ((vR r).getD kk ⟨#[]⟩) by rw [List.getD_eq_getElem?_getD, List.getElem?_eq_getElem (by rw [vr_len]; omega)]; rfl)))
            have hEl : Elts wr Ev.c 10 u5 (evR r) := elts_sr (c := Ev.c) (sz := 10) (rs := evR r) (fun x => rfl) (SR.owns HR2.out.row)
            have hCAs := cat_size hBl 4 (by rw [vr_len]; decide)
            have hCBs := bad_size kk hBl 4 (by rw [vr_len]; decide)
            have hca := cat_all hBl (vr_len r)
            have hcu := cut_all hBl (vr_len r)
            have hba := bad_all kk hk4 hBl (vr_len r) hfst
            obtain ⟨CA, hCA⟩ : ∃ CA, catL (vR r) 4 = CA := ⟨_, rfl⟩
            obtain ⟨CB, hCB⟩ : ∃ CB, badL (vR r) kk 4 = CB := ⟨_, rfl⟩
            rw [hCA] at hCAs hca hcu ⊢
            rw [hCB] at hCBs hba ⊢
            have hrl : r.length ≤ 20 := by omega
            have cA : ∀ wz, Below wr.heap.size wr wz → Calls Try.prog 46 #[u5, .int .i64 4, .string CA] wz fun e w' => e = .returned (.int .i64 (-1)) ∧ Below wz.heap.size wz w' := fun wz hz => by
              refine (pall r hrl CA u5 wz (hEl.below hz) HR2.out.ok (by rw [hCAs]; decide)).mono ?_
              rintro e w' ⟨⟨i, hi, rfl, hn, -⟩ | ⟨rfl, -⟩, hb⟩
              · exact absurd hn (hca i hi)
              · exact ⟨rfl, hb⟩
            have cB : ∀ wz, Below wr.heap.size wr wz → Calls Try.prog 46 #[u5, .int .i64 4, .string CB] wz fun e w' => e = .returned (.int .i64 kk) ∧ Below wz.heap.size wz w' := fun wz hz => by
              refine (pall r hrl CB u5 wz (hEl.below hz) HR2.out.ok (by rw [hCBs]; decide)).mono ?_
              rintro e w' ⟨⟨i, hi, rfl, hn, -⟩ | ⟨rfl, hn⟩, hb⟩
              · by_cases h : i = kk
                · rw [h]; exact ⟨rfl, hb⟩
                · exact absurd hn (hba.2 i hi h)
              · exact absurd hba.1 (hn kk hk4)
            have cC : ∀ wz, Below wr.heap.size wr wz → Calls Try.prog 46 #[u5, .int .i64 4, .string (CA.extract 0 127)] wz fun e w' => e = .returned (.int .i64 3) ∧ Below wz.heap.size wz w' := fun wz hz => by
              refine (pall r hrl (CA.extract 0 127) u5 wz (hEl.below hz) HR2.out.ok (by rw [ByteArray.size_extract, hCAs]; decide)).mono ?_
              rintro e w' ⟨⟨i, hi, rfl, hn, -⟩ | ⟨rfl, hn⟩, hb⟩
              · by_cases h : i = 3
                · rw [h]; exact ⟨rfl, hb⟩
                · exact absurd hn (hcu.2 i (by omega))
              · exact absurd hcu.1 (hn 3 (by omega))
            have cW := awake55 wr
            have hCAi : (CA.size : Int) = 128 := by omega
            have HL := Lib.hid HR2.out.low
            have HB0 := Lib.hid HR2.out.big
            clear hBl hfst hEl hCAs hCBs hca hcu hba hCA hCB HR2
            go_wp2_with fail
            refine Calls.mono cW ?_
            rintro e wa ⟨rfl, hba⟩
            have cA' := cA wa hba
            clear cA cW
            go_wp2_with fail
            refine Calls.mono cA' ?_
            rintro e wb ⟨rfl, hbb⟩
            have hbb' := hba.trans (hbb.mono hba.size)
            have cB' := cB wb hbb'
            clear cB cA' hba hbb
            go_wp2_with fail
            refine Calls.mono cB' ?_
            rintro e wc ⟨rfl, hbc⟩
            have hbc' := hbb'.trans (hbc.mono hbb'.size)
            have cC' := cC wc hbc'
            clear cC cB' hbb' hbc
            go_wp2_with fail
            refine Calls.mono cC' ?_
            rintro e wd ⟨rfl, hbd⟩
            have hbd' := hbc'.trans (hbd.mono hbc'.size)
            clear cC' hbc' hbd
            go_wp2_with fail
            refine Calls.mono (pall0 _) ?_
            rintro e we ⟨rfl, rfl⟩
            have HFin := Lib.hid ((HL.out.trans (hbd'.mono HB0.out)).mono (Nat.le_of_eq hN))
            clear hbd'
            go_wp2_with fail
            go_ret
            exact ⟨rfl, HFin.out⟩
theorem serial_law (a : Option Addr) (len cap : Nat) (k : Int) (w : World) (hf : Fits w (.slice (.two (.int .i64) (.two (.int .i64) (.two (.int .i64) (.two .str (.two .bool .unit)))))) [.slice a len cap]) (hk : (Lit.int .i64 k).wf = true) :
    Calls Try.prog 6 #[.slice a len cap, .int .i64 k] w fun e w' => e = .returned (.bool true) ∧ Below w.heap.size w w' := pserial_law a len cap k w hf hk
end Go.Proofs.Ytjaaddjbmimjoaa
