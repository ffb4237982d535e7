/-
  The waking call of layer 4; DiskNone.
-/
import Derived.Test.YtbmjkieikaapfaaDiskC
import Derived.Test.YtbmjkieikaapfaaDiskD
import Derived.Test.YtbmjkieikaapfaaDiskG
import Derived.Test.YtbmjkieikaapfaaDiskH
namespace Go.Proofs.Ytbmjkieikaapfaa
open Go.RowKit
set_option linter.unusedVariables false
set_option linter.unusedSimpArgs false

theorem set_zeros (n j : Nat) : (List.replicate n (0 : UInt8)).set j 0 = List.replicate n 0 := by
  apply List.ext_getElem?
  intro i
  rw [List.getElem?_set]
  split
  · rename_i h
    subst h
    by_cases hj : j < n <;> simp [hj]
  · rfl
theorem sec_step {w wr : World} {G j : Nat} {l : List UInt8} {t : TypeId} (hl : l = List.replicate 64 0) (hx : wr.heap[G]? = some (.cells (bCells l).toArray t)) (hb : Below G w wr) :
    (wr.setCell ⟨G, j, none⟩ (.int .u8 0)).heap[G]? = some (.cells (bCells l).toArray t) ∧ Below G w (wr.setCell ⟨G, j, none⟩ (.int .u8 0)) := by
  refine ⟨?_, hb.setCell (Nat.le_refl _) _⟩
  have e := bCells_set l j 0
  simp only [UInt8.toNat_zero, Int.ofNat_eq_natCast] at e
  rw [heap_set_self hx]
  have e2 : l.set j 0 = l := by
    rw [hl]
    exact set_zeros 64 j
  rw [e2] at e
  exact congrArg some (congrArg (fun c => Obj.cells c t (0, 0)) e)
set_option maxHeartbeats 800000 in
set_option maxRecDepth 100000 in
theorem sector0 (w : World) : Calls Try.prog 7 #[.int .u8 0] w fun e w' => e = .returned (.string (zeroL 64)) ∧ Below w.heap.size w w' := by
  have hmk : ∀ w, (Instr.makeSlice 54 (.int .i64 64) (.int .i64 64)).run Try.prog w = .ok (.slice (some ⟨w.heap.size, 0, none⟩) 64 64) (w.alloc (.cells (bCells (List.replicate 64 0)).toArray 5)) := fun _ => by kernel_rfl
  have hx := heap_alloc_self w (.cells (bCells (List.replicate 64 0)).toArray 5)
  have hb0 : Below w.heap.size w (w.alloc (.cells (bCells (List.replicate 64 0)).toArray 5)) := (Below.refl _ _).alloc (Nat.le_refl _) _
  obtain ⟨l0, hl0⟩ : ∃ l : List UInt8, List.replicate 64 0 = l := ⟨_, rfl⟩
  rw [hl0] at hmk hx hb0
  have HL0 := Lib.hid hl0
  clear hl0
  go_enter Try.func7, Try.ntmps7
  go_upto_region 2 with fail
  generalize w.alloc (.cells (bCells l0).toArray 5) = w1 at *
  have HX := Lib.hid hx
  have HB := Lib.hid hb0
  clear hx hb0 hmk
  obtain ⟨G, hG⟩ : ∃ G, w.heap.size = G := ⟨_, rfl⟩
  rw [hG] at HX HB ⊢
  have hl0 : l0.length = 64 := by rw [← HL0.out]; simp
  have HLn := Lib.hid hl0
  clear hl0
  go_wp2_with fail
  go_loopw [4] (fun i wr => ∃ j : Nat, j ≤ 64 ∧ i = .int .i64 j ∧ wr.heap[G]? = some (.cells (bCells l0).toArray 5) ∧ Below G w wr) (fun i _ => 64 - (intOf i).toNat)
  case atStart => exact ⟨0, by omega, rfl, HX.out, HB.out⟩
  case round =>
    obtain ⟨j, hj, rfl, hx, hbr⟩ := hrel
    have HXr := Lib.hid hx
    have HBr := Lib.hid hbr
    by_cases hlt : j < 64
    · have hc : wr.cell? ⟨G, j, none⟩ = some (.int .u8 (l0.getD j 0).toNat) := by
        have := HLn.out
        simp [World.cell?, hx, bCells, List.getD, this, hlt]
      have hf : wr.frozen? ⟨G, j, none⟩ = false := by simp [World.frozen?, hx]
      clear hx hbr
      go_wp2_with fail
      go_roundw
      case rel => exact ⟨j + 1, by omega, by go_num, sec_step HL0.out.symm HXr.out HBr.out⟩
      case measure => simp [intOf]; omega
    · have hcv := conv_block (P := Try.prog) (src := 54) (dst := 9) Try.underlying54 Try.underlying5 Try.underlying9 64 HLn.out.symm hx
      obtain rfl : j = 64 := by omega
      clear hx hbr
      go_wp2_with fail
      go_ret
      exact ⟨ret_str (by rw [← HL0.out]; rfl), by rw [hG]; exact HBr.out⟩

/-- a disk that has been read stays -/
theorem curD_nil (n k : Nat) (h : k < n) : curD (freshS n) [] k = zeroL 64 := by
  simp [curD, freshS, h]
theorem crash_zero (S : List ByteArray) (L : List (Nat × ByteArray)) : crashS 0 S L = S := by
  unfold crashS
  have : ∀ k, endS (fun j => (fateU 0 j : Nat)) k S L = S := by
    induction L generalizing S with
    | nil => intro k; rfl
    | cons x L ih =>
      intro k
      have h : fateS ((fateU 0 k : Nat) : Int) S x = S := by simp [fateU, fateS]
      show endS _ (k + 1) (fateS ((fateU 0 k : Nat) : Int) S x) L = S
      rw [h]
      exact ih S (k + 1)
  exact this 0
set_option maxHeartbeats 800000 in
theorem awake04 (w : World) : Calls Try.prog 8 #[] w fun e w' => e = .returned (.bool true) ∧ Below w.heap.size w w' := by
  have cs := fun w => sector0 w
  have cn := dnew 2 w (by omega) (by omega)
  obtain ⟨Z, hZ⟩ : ∃ Z, zeroL 64 = Z := ⟨_, rfl⟩
  have cc : curD (freshS 2) [] 0 = Z := by rw [← hZ]; exact curD_nil 2 0 (by omega)
  simp only [hZ] at cs
  have HC := Lib.hid cc
  have HZ := Lib.hid hZ
  clear cc hZ
  go_enter Try.func8, Try.ntmps8
  go_wp2_with fail
  refine Calls.mono cn ?_
  rintro e w1 ⟨p, sv, rfl, hd, hb⟩
  have HB := Lib.hid hb
  have HD := Lib.hid hd
  clear hd hb cn
  have c1 := dwrite 0 ⟨#[97, 98, 99]⟩ _ _ _ _ _ _ _ HD.out (by rw [freshS_length]; omega) (by decide) (by simp)
  go_wp2_with fail
  refine Calls.mono c1 ?_
  rintro e w2 ⟨rfl, v2, hd, hk⟩
  have HB2 := Lib.hid (HB.out.trans hk.below)
  have HD2 := Lib.hid hd
  clear hd hk c1 HB HD
  have c2 := dcrash 0 (by omega) _ _ _ _ _ _ _ HD2.out (by simp)
  rw [crash_zero] at c2
  go_wp2_with fail
  refine Calls.mono c2 ?_
  rintro e w3 ⟨rfl, hd, hk⟩
  have HB3 := Lib.hid (HB2.out.trans hk.below)
  have HD3 := Lib.hid hd
  clear hd hk c2 HB2 HD2
  have c3 := dread 0 _ _ _ _ _ _ _ HD3.out (by rw [freshS_length]; omega) (by simp)
  rw [HC.out] at c3
  go_wp2_with fail
  refine Calls.mono c3 ?_
  rintro e w4 ⟨rfl, hk⟩
  have HB4 := Lib.hid (below_trans HB3.out hk HB3.out.size)
  clear hk c3
  go_wp2_with fail
  refine Calls.mono (cs _) ?_
  rintro e w5 ⟨rfl, hk⟩
  have HB5 := Lib.hid (below_trans HB4.out hk HB4.out.size)
  clear hk cs
  go_wp2_with fail
  go_ret
  exact ⟨ret_bool (by simp), HB5.out⟩

end Go.Proofs.Ytbmjkieikaapfaa
