/-
  A log of given entries: rlog.New.
-/
import Derived.Test.YtkdmnhmlkcejfaaRlt
import Derived.Test.YtkdmnhmlkcejfaaElts
namespace Go.Proofs.Ytkdmnhmlkcejfaa
open Go.RowKit
set_option linter.unusedVariables false
set_option linter.unusedSimpArgs false

/-- the same value stored again -/
theorem setCell_idN {w : World} {b i : Nat} {A : Array Value} {t : TypeId} {v : Value} (h : w.heap[b]? = some (.cells A t)) (hv : A[i]? = some v) : w.setCell ⟨b, i, none⟩ v = w := by
  have hh : (w.setCell ⟨b, i, none⟩ v).heap = w.heap := by
    apply Array.ext_getElem?
    intro k
    by_cases hk : k = b
    · subst hk
      rw [heap_setCell_same _ _ _ _ _ _ h, h]
      congr 2
      obtain ⟨hk, -⟩ := Array.getElem?_eq_some_iff.1 hv
      apply Array.ext_getElem?
      intro j
      rw [Array.getElem?_setIfInBounds]
      split
      · next e => subst e; exact hv.symm
      · rfl
    · exact heap_setCell_other _ _ _ _ hk
  have : (w.setCell ⟨b, i, none⟩ v) = { w with heap := (w.setCell ⟨b, i, none⟩ v).heap } := rfl
  rw [this, hh]
theorem rresetE (g : Nat) (w : World) (h : w.heap[g]? = some (.cells #[.int .i64 0, .int .i64 0, .slice none 0 0] 70)) : Calls Try.prog 12 #[.pointer (some ⟨g, 0, none⟩), .int .i64 0, .int .i64 0] w fun e w' => e = .returned (.tuple #[]) ∧ w = w' := by
  have d0 := cell_atD h 0 (v := .int .i64 0) rfl
  have d1 := cell_atD h 1 (v := .int .i64 0) rfl
  have d2 := cell_atD h 2 (v := .slice none 0 0) rfl
  have i0 := setCell_idN h (i := 0) (v := .int .i64 0) rfl
  have i1 := setCell_idN h (i := 1) (v := .int .i64 0) rfl
  have i2 := setCell_idN h (i := 2) (v := .slice none 0 0) rfl
  have f : ∀ i, w.frozen? ⟨g, i, none⟩ = false := fun i => by simp [World.frozen?, h]
  clear h
  go_enter Try.func12, Try.ntmps12
  go_wp2_with fail
  go_end0
  exact ⟨rfl, rfl⟩
/-- what an entry says -/
def EN.k (e : EN) : Int × Int × CF := (e.t, e.x, e.c)
theorem EN.at_.below {e : EN} {w w' : World} (h : e.at_ w) (hb : Below w.heap.size w w') : e.at_ w' := CFat.below h hb
def NewR (es : List EN) (w : World) (j : Nat) (wr : World) : Prop := ∃ v' fs, LogE wr w.heap.size w.heap.size v' fs ∧ fs.map EN.k = (es.take j).map EN.k ∧ Below w.heap.size w wr
set_option maxHeartbeats 1600000 in
set_option maxRecDepth 100000 in
theorem rnewE (es : List EN) (hl : es.length ≤ 300) (w : World) (v : Value) (hv : Elts w EN.cells 7 v es) (hes : ∀ e ∈ es, mayE e.t e.x e.c = true ∧ short e.c ∧ e.at_ w) :
    Calls Try.prog 6 #[.int .i64 0, .int .i64 0, v] w fun ev w' => ∃ v' fs, ev = .returned (.pointer (some ⟨w.heap.size, 0, none⟩)) ∧ LogE w' w.heap.size w.heap.size v' fs ∧ fs.map EN.k = es.map EN.k ∧ Below w.heap.size w w' := by
  obtain ⟨a, cap, rfl, hlc, hcm, hel⟩ := hv
  have hel' : Elts w EN.cells 7 (.slice a es.length cap) es := ⟨a, cap, rfl, hlc, hcm, hel⟩
  have HV := Lib.hid (And.intro hel' hes)
  obtain ⟨n, hn⟩ : ∃ n, es.length = n := ⟨_, rfl⟩
  rw [hn] at hl hlc
  rw [hn]
  rw [hn] at HV
  have HN := Lib.hid hn
  have hx := heap_alloc_self w (.cells #[.int .i64 0, .int .i64 0, .slice none 0 0] 70)
  have hb := (Below.refl w.heap.size w).alloc (Nat.le_refl _) (.cells #[.int .i64 0, .int .i64 0, .slice none 0 0] 70)
  have cr := rresetE w.heap.size _ hx
  have H0 := Lib.hid (show NewR es w 0 (w.alloc (.cells #[.int .i64 0, .int .i64 0, .slice none 0 0] 70)) from ⟨.slice none 0 0, [], ⟨Nat.le_refl _, hx, World.ownsRow_nil _ _ _ _, by simp⟩, rfl, hb⟩)
  unfold maxLen at hcm
  clear hes hn hx hb hel hel'
  go_enter Try.func6, Try.ntmps6
  go_wp2_with fail
  refine Calls.mono cr ?_
  rintro e w1 ⟨rfl, hw1⟩
  rw [hw1] at H0
  clear cr hw1
  go_wp2_with fail
  go_loopw [20] (fun i wr => ∃ (j : Nat), j ≤ n ∧ i = .int .i64 j ∧ Hid (NewR es w j wr)) (fun i _ => n - (intOf i).toNat)
  case atStart => exact ⟨0, Nat.zero_le _, rfl, H0⟩
  case round =>
    obtain ⟨j, hj, rfl, HL⟩ := hrel
    clear H0
    by_cases hlt : j < n
    · obtain ⟨v', fs, hL, hk, hB⟩ := HL.out
      obtain ⟨e, hej⟩ : ∃ e, es[j]? = some e := ⟨_, List.getElem?_eq_getElem (by have := HN.out; omega)⟩
      obtain ⟨hm, hsh, hat⟩ := HV.out.2 e (List.mem_of_getElem? hej)
      obtain ⟨-, b, off, rfl, hbl, hc⟩ := HV.out.1.at_ hej
      have k0 : wr.cell? ⟨b, off + j * 7, none⟩ = some (.int .i64 e.t) := (hB.cell (p := ⟨b, off + j * 7, none⟩) hbl).trans (hc 0 _ rfl)
      have k1 : wr.cell? ⟨b, off + j * 7 + 1, none⟩ = some (.int .i64 e.x) := (hB.cell (p := ⟨b, off + j * 7 + 1, none⟩) hbl).trans (hc 1 _ rfl)
      have k2 : wr.cell? ⟨b, off + j * 7 + 2, none⟩ = some (.int .i64 e.c.e) := (hB.cell (p := ⟨b, off + j * 7 + 2, none⟩) hbl).trans (hc 2 _ rfl)
      have k3 : wr.cell? ⟨b, off + j * 7 + 3, none⟩ = some (.int .i64 e.c.b) := (hB.cell (p := ⟨b, off + j * 7 + 3, none⟩) hbl).trans (hc 3 _ rfl)
      have k4 : wr.cell? ⟨b, off + j * 7 + 4, none⟩ = some (.int .i64 e.c.k) := (hB.cell (p := ⟨b, off + j * 7 + 4, none⟩) hbl).trans (hc 4 _ rfl)
      have k5 : wr.cell? ⟨b, off + j * 7 + 5, none⟩ = some (.slice e.a1 e.c.M.length e.q1) := (hB.cell (p := ⟨b, off + j * 7 + 5, none⟩) hbl).trans (hc 5 _ rfl)
      have k6 : wr.cell? ⟨b, off + j * 7 + 6, none⟩ = some (.slice e.a2 e.c.C.length e.q2) := (hB.cell (p := ⟨b, off + j * 7 + 6, none⟩) hbl).trans (hc 6 _ rfl)
      have hb1 := (Below.refl wr.heap.size wr).alloc (Nat.le_refl _) (.cells #[.int .i64 e.t, .int .i64 e.x, .int .i64 e.c.e, .int .i64 e.c.b, .int .i64 e.c.k, .slice e.a1 e.c.M.length e.q1, .slice e.a2 e.c.C.length e.q2] 46)
      have hy := heap_alloc_self wr (.cells #[.int .i64 e.t, .int .i64 e.x, .int .i64 e.c.e, .int .i64 e.c.b, .int .i64 e.c.k, .slice e.a1 e.c.M.length e.q1, .slice e.a2 e.c.C.length e.q2] 46)
      have hL1 := hL.below hb1
      have hB1 := hB.trans (hb1.mono hB.size)
      have hat1 := EN.at_.below hat hB1
      have hfl : fs.length = j := by have := congrArg List.length hk; rw [List.length_map, List.length_map, List.length_take] at this; have := HN.out; omega
      have ca := raddE e _ hat1 hsh hm w.heap.size w.heap.size v' fs hL1 (by omega)
      rw [hfl] at ca
      have hkn : ∀ f : EN, f.k = e.k → (fs ++ [f]).map EN.k = (es.take (j + 1)).map EN.k := fun f hf => by rw [List.take_add_one, hej]; simp [hk, hf]
      have HX := Lib.hid (And.intro hB1 hkn)
      clear hL hk hB hc hm hsh hat hej hb1 hL1 hB1 hat1 hfl hkn hbl
      go_upto_region 6 with fail
      generalize wr.alloc (.cells #[.int .i64 e.t, .int .i64 e.x, .int .i64 e.c.e, .int .i64 e.c.b, .int .i64 e.c.k, .slice e.a1 e.c.M.length e.q1, .slice e.a2 e.c.C.length e.q2] 46) = w2 at *
      have d0 := cell_atD hy 0 (v := .int .i64 e.t) rfl
      have d1 := cell_atD hy 1 (v := .int .i64 e.x) rfl
      have d2 := cell_atD hy 2 (v := .int .i64 e.c.e) rfl
      have d3 := cell_atD hy 3 (v := .int .i64 e.c.b) rfl
      have d4 := cell_atD hy 4 (v := .int .i64 e.c.k) rfl
      have d5 := cell_atD hy 5 (v := .slice e.a1 e.c.M.length e.q1) rfl
      have d6 := cell_atD hy 6 (v := .slice e.a2 e.c.C.length e.q2) rfl
      clear hy k0 k1 k2 k3 k4 k5 k6
      go_wp2_with fail
      refine Calls.mono ca ?_
      rintro ev w3 ⟨rfl, b1, p1, b2, p2, v2, h2, hk2⟩
      have HF := Lib.hid (show NewR es w (j + 1) w3 from ⟨v2, _, h2, HX.out.2 _ rfl, HX.out.1.trans hk2.below⟩)
      clear h2 hk2 ca
      go_wp2_with fail
      go_roundw
      case rel => exact ⟨j + 1, by omega, by go_num, HF⟩
      case measure => simp [intOf]; omega
    · obtain rfl : j = n := by omega
      go_wp2_with fail
      go_ret
      obtain ⟨v', fs, h1, h2, h3⟩ := HL.out
      exact ⟨v', fs, rfl, h1, by rw [h2, ← HN.out, List.take_length], h3⟩
end Go.Proofs.Ytkdmnhmlkcejfaa
