/-
  place.Load; tarnlaw41's has.
-/
import Derived.Test.YtadejhlljdcocaaPlcB
import Derived.Test.YtadejhlljdcocaaConfC
namespace Go.Proofs.Ytadejhlljdcocaa
open Go.RowKit
set_option linter.unusedVariables false
set_option linter.unusedSimpArgs false

theorem has41 (v : Value) (l : List Int) (n : Int) (w : World) (hv : SR w v 1 l.length (nCells l)) : Calls Try.prog 62 #[v, .int .i64 n] w fun e w' => e = .returned (.bool (decide (n ∈ l))) ∧ w = w' := by
  obtain ⟨ad, cap, rfl, hlc, hcm⟩ := hv.form
  unfold maxLen at hcm
  have HV := Lib.hid hv
  clear hv
  obtain ⟨r, hr⟩ : ∃ r, r = decide (n ∈ l) := ⟨_, rfl⟩
  rw [← hr]
  have HR := Lib.hid hr
  clear hr
  go_enter Try.func62, Try.ntmps62
  go_wp2_with fail
  go_loop [5] (fun i => ∃ k : Nat, k ≤ l.length ∧ i = .int .i64 k ∧ NotIn n (l.take k)) (fun i => l.length - (intOf i).toNat)
  case atStart => exact ⟨0, Nat.zero_le _, rfl, by simp [NotIn]⟩
  case round =>
    obtain ⟨k, hk, rfl, hno⟩ := hrel
    have HN := Lib.hid hno
    clear hno
    by_cases hlt : k < l.length
    · obtain ⟨b, off, rfl, hb, hcell⟩ := HV.out.int (by omega)
      have hc := hcell k hlt
      obtain ⟨x, hx⟩ : ∃ x, x = l.getD k 0 := ⟨_, rfl⟩
      rw [← hx] at hc
      have HX := Lib.hid hx
      clear hcell hx
      by_cases he : x = n
      · subst he
        go_wp2_with fail
        go_ret
        refine ⟨ret_bool ?_, rfl⟩
        rw [HR.out]
        symm
        rw [decide_eq_true_eq]
        have : x ∈ l.take (k + 1) := (mem_take_succ l k hlt x).2 (.inr HX.out)
        exact List.mem_of_mem_take this
      · go_wp2_with fail
        go_round
        case rel =>
          refine ⟨k + 1, by omega, by go_num, fun h => ?_⟩
          rcases (mem_take_succ l k hlt n).1 h with h | h
          · exact HN.out h
          · exact he (HX.out.trans h.symm)
        case measure => simp [intOf]; omega
    · obtain rfl : k = l.length := by omega
      clear hlt
      go_wp2_with fail
      go_ret
      refine ⟨ret_bool ?_, rfl⟩
      rw [HR.out]
      symm
      rw [decide_eq_false_iff_not]
      have := HN.out
      rw [NotIn, List.take_length] at this
      exact this
/-- what a node has to do -/
def ldF (M C : List Int) (i : Nat) : Int := (if (i : Int) ∈ C then 2 else 0) + if (i : Int) ∈ M then 1 else 0
def ldK (M C : List Int) (k : Nat) : Nat → Int := fun i => if i < k then ldF M C i else 0
def updP (f : Nat → Int) (k : Nat) (v : Int) : Nat → Int := fun i => if i = k then v else f i
theorem arr5_set (f : Nat → Int) (k : Nat) (hk : k < 5) (v : Int) : (arr5 f).setIfInBounds k (.int .i64 v) = arr5 (updP f k v) := by
  match k, hk with
  | 0, _ => rfl
  | 1, _ => rfl
  | 2, _ => rfl
  | 3, _ => rfl
  | 4, _ => rfl
theorem arr5_ext {f g : Nat → Int} (h : ∀ i, i < 5 → f i = g i) : arr5 f = arr5 g := by
  unfold arr5
  rw [h 0 (by decide), h 1 (by decide), h 2 (by decide), h 3 (by decide), h 4 (by decide)]
/-- the same value stored again -/
theorem setCell_idP {w : World} {b i : Nat} {A : Array Value} {t : TypeId} {v : Value} (h : w.heap[b]? = some (.cells A t)) (hv : A[i]? = some v) : w.setCell ⟨b, i, none⟩ v = w := by
  have hh : (w.setCell ⟨b, i, none⟩ v).heap = w.heap := by
    apply Array.ext_getElem?
    intro k
    by_cases hk : k = b
    · subst hk
      rw [heap_setCell_same _ _ _ _ _ _ h, h]
      congr 2
      obtain ⟨hk, -⟩ := Array.getElem?_eq_some_iff.1 hv
      apply Array.ext_getElem?
      intro j
      rw [Array.getElem?_setIfInBounds]
      split
      · next e => subst e; exact hv.symm
      · rfl
    · exact heap_setCell_other _ _ _ _ hk
  have : (w.setCell ⟨b, i, none⟩ v) = { w with heap := (w.setCell ⟨b, i, none⟩ v).heap } := rfl
  rw [this, hh]
structure LD (w wr : World) (A : Array Value) (f : Nat → Int) : Prop where
  below : Below w.heap.size w wr
  box : wr.heap[w.heap.size]? = some (.cells A 31)
  out : wr.heap[w.heap.size + 1]? = some (.cells (arr5 (fun _ => 0)) 118)
  arr : wr.heap[w.heap.size + 2]? = some (.cells (arr5 f) 118)
theorem LD.go {w wr wx : World} {A : Array Value} {f : Nat → Int} (h : LD w wr A f) (hb : Below wr.heap.size wr wx) : LD w wx A f :=
  ⟨h.below.trans (hb.mono h.below.size), below_at hb (lt_heap h.box) h.box, below_at hb (lt_heap h.out) h.out, below_at hb (lt_heap h.arr) h.arr⟩
theorem LD.set {w wr : World} {A : Array Value} {f : Nat → Int} (h : LD w wr A f) (k : Nat) (hk : k < 5) (v : Int) : LD w (wr.setCell ⟨w.heap.size + 2, k, none⟩ (.int .i64 v)) A (updP f k v) :=
  ⟨h.below.setCell (p := ⟨w.heap.size + 2, k, none⟩) (by simp) _, (heap_setCell_other _ _ _ _ (by simp)).trans h.box, (heap_setCell_other _ _ _ _ (by simp)).trans h.out, (heap_setCell_same _ _ _ _ _ _ h.arr).trans (by rw [arr5_set f k hk])⟩
theorem LD.eq {w wr : World} {A : Array Value} {f g : Nat → Int} (h : LD w wr A f) (hfg : ∀ i, i < 5 → f i = g i) : LD w wr A g := ⟨h.below, h.box, h.out, by rw [← arr5_ext hfg]; exact h.arr⟩
theorem pfrz {w : World} {b : Nat} {A : Array Value} {t : TypeId} (h : w.heap[b]? = some (.cells A t)) (i : Nat) : w.frozen? ⟨b, i, none⟩ = false := by simp [World.frozen?, h]
set_option maxHeartbeats 6400000 in
set_option maxRecDepth 100000 in
theorem pload (e b k : Int) (m c : Value) (M C : List Int) (w : World) (hm : SR w m 1 M.length (nCells M)) (hc : SR w c 1 C.length (nCells C)) :
    Calls Try.prog 61 #[.agg (confA e b k m c)] w fun ev w' => ev = .returned (.agg (arr5 (ldF M C))) ∧ Below w.heap.size w w' := by
  obtain ⟨ma, mc, rfl, hmc, hmm⟩ := hm.form
  obtain ⟨ca, cc, rfl, hcc, hcm⟩ := hc.form
  have HM := Lib.hid hm
  have HC := Lib.hid hc
  have hL : LD w (((w.alloc (.cells (confA e b k (.slice ma M.length mc) (.slice ca C.length cc)) 31)).alloc (.cells (arr5 (fun _ => 0)) 118)).alloc (.cells (arr5 (fun _ => 0)) 118)) (confA e b k (.slice ma M.length mc) (.slice ca C.length cc)) (ldK M C 0) := by
    have z1 : (w.alloc (.cells (confA e b k (.slice ma M.length mc) (.slice ca C.length cc)) 31)).heap.size = w.heap.size + 1 := by simp
    have z2 : ((w.alloc (.cells (confA e b k (.slice ma M.length mc) (.slice ca C.length cc)) 31)).alloc (.cells (arr5 (fun _ => 0)) 118)).heap.size = w.heap.size + 2 := by simp
    have h1 := heap_alloc_self (w.alloc (.cells (confA e b k (.slice ma M.length mc) (.slice ca C.length cc)) 31)) (.cells (arr5 (fun _ => 0)) 118)
    have h2 := heap_alloc_self ((w.alloc (.cells (confA e b k (.slice ma M.length mc) (.slice ca C.length cc)) 31)).alloc (.cells (arr5 (fun _ => 0)) 118)) (.cells (arr5 (fun _ => 0)) 118)
    rw [z1] at h1
    rw [z2] at h2
    exact ⟨(((Below.refl _ _).alloc (Nat.le_refl _) _).alloc (by simp) _).alloc (by simp; omega) _, pfar (pfar (heap_alloc_self w _) _) _, pfar h1 _, h2⟩
  have HL0 := Lib.hid hL
  unfold confA arr5 at HL0
  clear hm hc hL
  unfold confA
  go_enter Try.func61, Try.ntmps61
  go_wp2_with fail
  go_loopw [5] (fun i wr => ∃ j : Nat, j ≤ 5 ∧ i = .int .i64 j ∧ Hid (LD w wr #[.int .i64 e, .int .i64 b, .int .i64 k, .slice ma M.length mc, .slice ca C.length cc] (ldK M C j))) (fun i _ => 5 - (intOf i).toNat)
  case atStart => exact ⟨0, by decide, rfl, HL0⟩
  case round =>
    obtain ⟨j, hj, rfl, HR⟩ := hrel
    clear HL0
    by_cases hlt : j < 5
    · have c0 := pcell HR.out.box 0 (v := .int .i64 e) rfl
      have c1 := pcell HR.out.box 1 (v := .int .i64 b) rfl
      have c2 := pcell HR.out.box 2 (v := .int .i64 k) rfl
      have c3 := pcell HR.out.box 3 (v := .slice ma M.length mc) rfl
      have c4 := pcell HR.out.box 4 (v := .slice ca C.length cc) rfl
      have hz : (arr5 (ldK M C j))[j]? = some (.int .i64 0) := by rw [arr5_at _ j hlt]; simp [ldK]
      have a0 := pcell HR.out.arr j hz
      have f0 := pfrz HR.out.arr j
      have id0 := setCell_idP HR.out.arr hz
      have ch := chains_any e b k (.slice ma M.length mc) _ C j wr ⟨ma, M.length, mc, rfl⟩ (HC.out.below HR.out.below)
      unfold confA at ch
      obtain ⟨p, hp⟩ : ∃ p, decide ((j : Int) ∈ C) = p := ⟨_, rfl⟩
      rw [hp] at ch
      have HP := Lib.hid hp
      clear hz hp
      obtain ⟨W0, hW0⟩ : ∃ W0, W0 = wr := ⟨_, rfl⟩
      subst hW0
      go_upto_if 12 with (refine Calls.mono ch ?_; rintro ev w1 ⟨rfl, hb1⟩)
      have HR1 := Lib.hid (HR.out.go hb1)
      clear hb1 c0 c1 c2 c3 c4 a0 f0 id0 ch
      go_cut [] (fun wx => ∃ y : Int, y = (if p = true then 2 else 0) ∧ LD w wx #[.int .i64 e, .int .i64 b, .int .i64 k, .slice ma M.length mc, .slice ca C.length cc] (updP (ldK M C j) j y))
      case first =>
        have a0 := pcell HR1.out.arr j (v := .int .i64 0) (by rw [arr5_at _ j hlt]; simp [ldK])
        have f0 := pfrz HR1.out.arr j
        cases p
        · have HE := Lib.hid (HR1.out.eq (g := updP (ldK M C j) j 0) (fun i hi => by
            unfold updP ldK
            by_cases hij : i = j
            · rw [if_neg (by omega), if_pos hij]
            · rw [if_neg hij]))
          go_wp2_with fail
          go_meet
          exact ⟨0, by simp, HE.out⟩
        · have HE := Lib.hid (HR1.out.set j hlt 2)
          go_wp2_with fail
          go_meet
          exact ⟨2, by simp, HE.out⟩
      case rest =>
        obtain ⟨y, hy, hL2⟩ := hcut
        have HL2 := Lib.hid hL2
        have HYY := Lib.hid hy
        have hy2 : 0 ≤ y ∧ y ≤ 2 := by rw [hy]; split <;> omega
        obtain ⟨hy0, hy1⟩ := hy2
        obtain ⟨W1, hW1⟩ : ∃ W1, W1 = wc := ⟨_, rfl⟩
        subst hW1
        clear hL2 hy
        have c0 := pcell HL2.out.box 0 (v := .int .i64 e) rfl
        have c1 := pcell HL2.out.box 1 (v := .int .i64 b) rfl
        have c2 := pcell HL2.out.box 2 (v := .int .i64 k) rfl
        have c3 := pcell HL2.out.box 3 (v := .slice ma M.length mc) rfl
        have c4 := pcell HL2.out.box 4 (v := .slice ca C.length cc) rfl
        have cm := mirrors_any e b k _ (.slice ca C.length cc) M j W1 (HM.out.below HL2.out.below) ⟨ca, C.length, cc, rfl⟩
        unfold confA at cm
        obtain ⟨q, hq⟩ : ∃ q, decide ((j : Int) ∈ M) = q := ⟨_, rfl⟩
        rw [hq] at cm
        have HQ := Lib.hid hq
        clear hq
        have hnext : ∀ v : Int, v = y + (if q = true then 1 else 0) → ∀ i, i < 5 → updP (updP (ldK M C j) j y) j v i = ldK M C (j + 1) i := fun v hv i hi => by
          unfold updP ldK
          by_cases hij : i = j
          · subst hij
            rw [if_pos rfl, if_pos (by omega), hv, HYY.out]
            unfold ldF
            rw [← HP.out, ← HQ.out]
            simp
          · rw [if_neg hij, if_neg hij]
            by_cases h1 : i < j
            · rw [if_pos h1, if_pos (by omega)]
            · rw [if_neg h1, if_neg (by omega)]
        have HNX := Lib.hid hnext
        clear hnext
        go_wp2_with fail
        refine Calls.mono cm ?_
        rintro ev w1 ⟨rfl, hb1⟩
        have HR2 := Lib.hid (HL2.out.go hb1)
        clear hb1 c0 c1 c2 c3 c4 cm
        have a0 := pcell HR2.out.arr j (v := .int .i64 y) (by rw [arr5_at _ j hlt]; simp [updP])
        have f0 := pfrz HR2.out.arr j
        cases q
        · have HE := Lib.hid (HR2.out.eq (g := ldK M C (j + 1)) (fun i hi => by
            rw [← HNX.out y (by simp) i hi]
            unfold updP
            split <;> rfl))
          go_wp2_with fail
          go_roundw
          case rel => exact ⟨j + 1, by omega, by go_num, HE⟩
          case measure => simp [intOf]; omega
        · have HE := Lib.hid ((HR2.out.set j hlt (y + 1)).eq (g := ldK M C (j + 1)) (fun i hi => HNX.out (y + 1) (by simp) i hi))
          go_wp2_with fail
          go_roundw
          case rel => exact ⟨j + 1, by omega, by go_num, HE⟩
          case measure => simp [intOf]; omega
    · obtain rfl : j = 5 := by omega
      have e5 : LD w wr #[.int .i64 e, .int .i64 b, .int .i64 k, .slice ma M.length mc, .slice ca C.length cc] (ldF M C) := HR.out.eq (fun i hi => by unfold ldK; rw [if_pos hi])
      obtain ⟨LF, hLF⟩ : ∃ LF, ldF M C = LF := ⟨_, rfl⟩
      rw [hLF] at e5
      have HLF := Lib.hid hLF
      clear hLF
      have a0 := pcell e5.arr 0 (v := .int .i64 (LF 0)) rfl
      have o0 := pcell e5.out 0 (v := .int .i64 0) rfl
      have a1 := pcell e5.arr 1 (v := .int .i64 (LF 1)) rfl
      have o1 := pcell e5.out 1 (v := .int .i64 0) rfl
      have a2 := pcell e5.arr 2 (v := .int .i64 (LF 2)) rfl
      have o2 := pcell e5.out 2 (v := .int .i64 0) rfl
      have a3 := pcell e5.arr 3 (v := .int .i64 (LF 3)) rfl
      have o3 := pcell e5.out 3 (v := .int .i64 0) rfl
      have a4 := pcell e5.arr 4 (v := .int .i64 (LF 4)) rfl
      have o4 := pcell e5.out 4 (v := .int .i64 0) rfl
      have ff := fun i => pfrz e5.out i
      have hfin : ((((((wr.setCell ⟨w.heap.size + 1, 0, none⟩ (.int .i64 (LF 0))).setCell ⟨w.heap.size + 1, 1, none⟩ (.int .i64 (LF 1))).setCell ⟨w.heap.size + 1, 2, none⟩ (.int .i64 (LF 2))).setCell ⟨w.heap.size + 1, 3, none⟩ (.int .i64 (LF 3))).setCell ⟨w.heap.size + 1, 4, none⟩ (.int .i64 (LF 4))).heap[w.heap.size + 1]? = some (.cells (arr5 LF) 118)) ∧ Below w.heap.size w (((((wr.setCell ⟨w.heap.size + 1, 0, none⟩ (.int .i64 (LF 0))).setCell ⟨w.heap.size + 1, 1, none⟩ (.int .i64 (LF 1))).setCell ⟨w.heap.size + 1, 2, none⟩ (.int .i64 (LF 2))).setCell ⟨w.heap.size + 1, 3, none⟩ (.int .i64 (LF 3))).setCell ⟨w.heap.size + 1, 4, none⟩ (.int .i64 (LF 4))) := by
        refine ⟨(heap_setCell_same _ _ _ _ _ _ ((heap_setCell_same _ _ _ _ _ _ ((heap_setCell_same _ _ _ _ _ _ ((heap_setCell_same _ _ _ _ _ _ ((heap_setCell_same _ _ _ _ _ _ e5.out).trans rfl)).trans rfl)).trans rfl)).trans rfl)).trans rfl, ?_⟩
        exact ((((e5.below.setCell (p := ⟨w.heap.size + 1, 0, none⟩) (by simp) _).setCell (p := ⟨w.heap.size + 1, 1, none⟩) (by simp) _).setCell (p := ⟨w.heap.size + 1, 2, none⟩) (by simp) _).setCell (p := ⟨w.heap.size + 1, 3, none⟩) (by simp) _).setCell (p := ⟨w.heap.size + 1, 4, none⟩) (by simp) _
      have HFF := Lib.hid hfin
      clear e5 hfin
      go_wp2_with fail
      have h6 := HFF.out
      clear HFF a0 a1 a2 a3 a4 o0 o1 o2 o3 o4 ff
      generalize (((((wr.setCell ⟨w.heap.size + 1, 0, none⟩ (.int .i64 (LF 0))).setCell ⟨w.heap.size + 1, 1, none⟩ (.int .i64 (LF 1))).setCell ⟨w.heap.size + 1, 2, none⟩ (.int .i64 (LF 2))).setCell ⟨w.heap.size + 1, 3, none⟩ (.int .i64 (LF 3))).setCell ⟨w.heap.size + 1, 4, none⟩ (.int .i64 (LF 4))) = W6 at *
      have a0 := pcell h6.1 0 (v := .int .i64 (LF 0)) rfl
      have a1 := pcell h6.1 1 (v := .int .i64 (LF 1)) rfl
      have a2 := pcell h6.1 2 (v := .int .i64 (LF 2)) rfl
      have a3 := pcell h6.1 3 (v := .int .i64 (LF 3)) rfl
      have a4 := pcell h6.1 4 (v := .int .i64 (LF 4)) rfl
      refine bodyPost_ret (v := .agg (arr5 LF)) (by simp [results, Try.results61, go_sem, arr5, a0, a1, a2, a3, a4]) rfl ?_
      exact ⟨by rw [HLF.out], h6.2⟩
end Go.Proofs.Ytadejhlljdcocaa
