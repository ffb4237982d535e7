/-
  hexa: Block; what the waking call of layer 44 wants.
-/
import Derived.Test.YtbncifmmahgfeaaHexaB
namespace Go.Proofs.Ytbncifmmahgfeaa
open Go.RowKit
set_option linter.unusedVariables false
set_option linter.unusedSimpArgs false

theorem bCells_set (l : List UInt8) (i : Nat) (c : UInt8) : (bCells l).toArray.setIfInBounds i (.int .u8 c.toNat) = (bCells (l.set i c)).toArray := by
  simp [bCells, List.map_set]
theorem conv_block {P : Program} {src dst e : TypeId} (hs : P.underlying src = some (.slice e)) (he : P.underlying e = some (.int .u8)) (hd : P.underlying dst = some .string) {w : World} {g n : Nat} {l : List UInt8} {t : TypeId} {fr : Nat × Nat} (c : Nat) (hn : n = l.length)
    (h : w.heap[g]? = some (.cells (bCells l).toArray t fr)) : (convert src dst (.slice (some ⟨g, 0, none⟩) n c)).run P w = .ok (.string ⟨l.toArray⟩) w := by
  subst hn
  refine run_convert_bytes_back w src dst e ⟨g, 0, none⟩ c l hs he hd fun j hj => ?_
  have e1 : (⟨g, 0, none⟩ : Addr).add j = ⟨g, j, none⟩ := by unfold Addr.add; split <;> simp_all
  rw [e1]
  simp [World.cell?, h, bCells, hj]
def OneL (c : UInt8) (j : Nat) : List UInt8 := List.replicate j c ++ List.replicate (32 - j) 0
theorem oneL_len (c : UInt8) (j : Nat) (hj : j ≤ 32) : (OneL c j).length = 32 := by simp [OneL]; omega
theorem oneL_set (c : UInt8) (j : Nat) (hj : j < 32) : (OneL c j).set j c = OneL c (j + 1) := by
  unfold OneL
  apply List.ext_getElem?
  intro i
  rw [List.getElem?_set]
  by_cases h : j = i
  · subst h
    rw [if_pos rfl, if_pos (by simp; omega), List.getElem?_append_left (by simp), List.getElem?_replicate, if_pos (by omega)]
  · rw [if_neg h]
    by_cases h2 : i < j
    · rw [List.getElem?_append_left (by simp; omega), List.getElem?_append_left (by simp; omega), List.getElem?_replicate, List.getElem?_replicate, if_pos h2, if_pos (by omega)]
    · rw [List.getElem?_append_right (by simp; omega), List.getElem?_append_right (by simp; omega), List.getElem?_replicate, List.getElem?_replicate]
      simp only [List.length_replicate]
      by_cases h3 : i < 32
      · rw [if_pos (by omega), if_pos (by omega)]
      · rw [if_neg (by omega), if_neg (by omega)]
set_option maxHeartbeats 1600000 in
set_option maxRecDepth 100000 in
theorem block_one (c : UInt8) (w : World) : Calls Try.prog 12 #[.string ⟨#[c]⟩] w fun e w' => e = .returned (.string ⟨(List.replicate 32 c).toArray⟩) ∧ Below w.heap.size w w' := by
  have hmk : ∀ w, (Instr.makeSlice 33 (.int .i64 32) (.int .i64 32)).run Try.prog w = .ok (.slice (some ⟨w.heap.size, 0, none⟩) 32 32) (w.alloc (.cells (bCells (List.replicate 32 0)).toArray 5)) := fun _ => by kernel_rfl
  have hx := heap_alloc_self w (.cells (bCells (List.replicate 32 0)).toArray 5)
  have hb0 : Below w.heap.size w (w.alloc (.cells (bCells (List.replicate 32 0)).toArray 5)) := (Below.refl _ _).alloc (Nat.le_refl _) _
  obtain ⟨l0, hl0⟩ : ∃ l : List UInt8, List.replicate 32 0 = l := ⟨_, rfl⟩
  rw [hl0] at hmk hx hb0
  have HL0 := Lib.hid hl0
  obtain ⟨s, hs⟩ : ∃ s : ByteArray, (⟨#[c]⟩ : ByteArray) = s := ⟨_, rfl⟩
  have hsz : s.size = 1 := by rw [← hs]; rfl
  have hget : ∀ h : 0 < s.size, s[0]'h = c := by subst hs; intro h; rfl
  have hg0 := hget (by omega)
  rw [hs]
  clear hl0 hs hget
  go_enter Try.func12, Try.ntmps12
  go_upto_region 2 with fail
  generalize w.alloc (.cells (bCells l0).toArray 5) = w1 at *
  have HX := Lib.hid hx
  have HB := Lib.hid hb0
  clear hx hb0 hmk
  obtain ⟨G, hG⟩ : ∃ G, w.heap.size = G := ⟨_, rfl⟩
  rw [hG] at HX HB
  try rw [hG]
  go_wp2_with fail
  go_loopw [4] (fun i wr => ∃ j : Nat, j ≤ 32 ∧ i = .int .i64 j ∧ wr.heap[G]? = some (.cells (bCells (OneL c j)).toArray 5) ∧ Below G w wr) (fun i _ => 32 - (intOf i).toNat)
  case atStart => exact ⟨0, by omega, rfl, by rw [HX.out, ← HL0.out]; rfl, HB.out⟩
  case round =>
    obtain ⟨j, hj, rfl, hx, hbr⟩ := hrel
    have HXr := Lib.hid hx
    have HBr := Lib.hid hbr
    by_cases hlt : j < 32
    · have hc : wr.cell? ⟨G, j, none⟩ = some (.int .u8 ((OneL c j).getD j 0).toNat) := by
        have := oneL_len c j hj
        simp [World.cell?, hx, bCells, List.getD, this, hlt]
      have hf : wr.frozen? ⟨G, j, none⟩ = false := by simp [World.frozen?, hx]
      have hm1 : (j : Int) % 1 = 0 := by omega
      have hm2 : j % 1 = 0 := by omega
      clear hx hbr
      go_wp2_with fail
      go_roundw
      case rel => exact ⟨j + 1, by omega, by go_num, by rw [heap_set_self HXr.out, bCells_set, oneL_set c j hlt], HBr.out.setCell (Nat.le_refl _) _⟩
      case measure => simp [intOf]; omega
    · obtain rfl : j = 32 := by omega
      have hcv := conv_block (P := Try.prog) (src := 33) (dst := 9) Try.underlying33 Try.underlying5 Try.underlying9 32 (oneL_len c 32 (by omega)).symm hx
      have e32 : OneL c 32 = List.replicate 32 c := by simp [OneL]
      have HE := Lib.hid e32
      clear hx hbr e32
      go_wp2_with fail
      go_ret
      exact ⟨ret_str (by rw [HE.out]), by rw [hG]; exact HBr.out⟩
set_option maxRecDepth 100000 in
theorem icut61 (w : World) : Calls Try.prog 21 #[.string ⟨#[54, 49, 42]⟩, .string ⟨#[42]⟩] w fun e w' => e = .returned (.tuple #[.string ⟨#[54, 49]⟩, .bool true]) ∧ w = w' := by
  have hs := fun w => Try.stringslite_HasSuffix ⟨#[54, 49, 42]⟩ ⟨#[42]⟩ w (by decide)
  have e : Lib.hasSuffix (⟨#[54, 49, 42]⟩ : ByteArray).data.toList (⟨#[42]⟩ : ByteArray).data.toList = true := by decide
  rw [e] at hs
  go_enter Try.func21, Try.ntmps21
  go_wp2_with fail
  refine Calls.mono (hs _) ?_
  rintro e w2 ⟨rfl, rfl⟩
  go_wp2_with fail
  go_returns
  exact ⟨rfl, rfl⟩
theorem cut61 (w : World) : Calls Try.prog 19 #[.string ⟨#[54, 49, 42]⟩, .string ⟨#[42]⟩] w fun e w' => e = .returned (.tuple #[.string ⟨#[54, 49]⟩, .bool true]) ∧ w = w' := by
  go_enter Try.func19, Try.ntmps19
  go_wp2_with fail
  refine Calls.mono (icut61 _) ?_
  rintro e w2 ⟨rfl, rfl⟩
  go_wp2_with fail
  go_returns
  exact ⟨rfl, rfl⟩
set_option maxRecDepth 100000 in
theorem get61 (w : World) : Calls Try.prog 7 #[.string ⟨#[54, 49]⟩] w fun e w' => e = .returned (.tuple #[.string ⟨#[97]⟩, .int .i64 0, .int .i64 0]) ∧ Below w.heap.size w w' := by
  have h := hget ⟨#[54, 49]⟩ 2 w (by decide) (by decide) (fun k h hk => by
    have : k = 0 ∨ k = 1 := by omega
    rcases this with rfl | rfl <;> rfl) (fun h => absurd h (by decide))
  have e : getR ⟨#[54, 49]⟩ 2 = .tuple #[.string ⟨#[97]⟩, .int .i64 0, .int .i64 0] := by
    unfold getR
    rw [if_neg (by decide), if_neg (by decide)]
    have : valL ⟨#[54, 49]⟩ ((⟨#[54, 49]⟩ : ByteArray).size / 2) = [97] := by decide
    rw [this]
  rw [e] at h
  exact h
set_option maxRecDepth 100000 in
theorem repA (w : World) : Calls Try.prog 20 #[.string ⟨#[97]⟩, .int .i64 31] w fun e w' => e = .returned (.string ⟨(List.replicate 31 97).toArray⟩) ∧ Below w.heap.size w w' := by
  have h := Try.strings_Repeat ⟨#[97]⟩ 31 w (by decide) (by decide)
  exact h
set_option maxHeartbeats 1600000 in
set_option maxRecDepth 100000 in
theorem hlong61 (w : World) : Calls Try.prog 13 #[.string ⟨#[54, 49, 42]⟩] w fun e w' => e = .returned (.tuple #[.string ⟨(List.replicate 32 97).toArray⟩, .int .i64 0, .int .i64 0]) ∧ Below w.heap.size w w' := by
  have cr := fun w => repA w
  obtain ⟨R, hR⟩ : ∃ R : ByteArray, (⟨(List.replicate 31 97).toArray⟩ : ByteArray) = R := ⟨_, rfl⟩
  have hRs : R.size = 31 := by rw [← hR]; rfl
  have hRR : (⟨#[97]⟩ : ByteArray) ++ R = ⟨(List.replicate 32 97).toArray⟩ := by rw [← hR]; exact str_ext (by simp)
  rw [hR] at cr
  have hE : ByteArray.extract ⟨#[97]⟩ 0 1 = ⟨#[97]⟩ := by decide
  have HR := Lib.hid hRR
  clear hRR hR
  go_enter Try.func13, Try.ntmps13
  go_wp2_with fail
  refine Calls.mono (cut61 _) ?_
  rintro e w2 ⟨rfl, rfl⟩
  go_wp2_with fail
  refine Calls.mono (get61 _) ?_
  rintro e w3 ⟨rfl, hb3⟩
  have HB3 := Lib.hid hb3
  clear hb3
  go_wp2_with fail
  refine Calls.mono (cr _) ?_
  rintro e w4 ⟨rfl, hb4⟩
  have HB4 := Lib.hid (below_trans HB3.out hb4 HB3.out.size)
  clear hb4
  go_wp2_with fail
  go_returns
  refine ⟨?_, HB4.out⟩
  rw [← HR.out]
  rfl
theorem below_of_drewN {w w' : World} {n : Nat} (h : Below (w.drewN n).heap.size (w.drewN n) w') : Below w.heap.size w w' := ⟨h.os, h.tape, h.output, h.size, h.block⟩
/-- Block -/
def blockR (s : ByteArray) (f : Nat) : ByteArray := if f + 1 = s.size then ⟨(hexL s.data.toList).toArray⟩ else ⟨(hexL (s.data.toList.take (f + 1))).toArray⟩ ++ ⟨#[42]⟩
set_option maxHeartbeats 1600000 in
set_option maxRecDepth 100000 in
theorem hblock (s : ByteArray) (f : Nat) (c : UInt8) (w : World) (hs : s.size ≤ 100) (hf : f < s.size) (hlast : ∀ h : s.size - 1 < s.size, s[s.size - 1]'h = c) (hrun : ∀ k (h : k < s.size), f ≤ k → s[k]'h = c) (hbrk : ∀ k (h : k < s.size), k + 1 = f → s[k]'h ≠ c) :
    Calls Try.prog 14 #[.string s] w fun e w' => e = .returned (.string (blockR s f)) ∧ Below w.heap.size w w' := by
  have hne : s ≠ ⟨#[]⟩ := fun h => by rw [h] at hf; cases hf
  have hne1 : ¬ s.toList = [] := by
    intro e
    rw [ByteArray.toList_eq] at e
    exact hne (str_ext e)
  have hne2 : (s.toList == []) = false := by rw [beq_eq_false_iff_ne]; exact hne1
  have hl := hlast (by omega)
  obtain ⟨m, hm⟩ : ∃ m, s.size = m + 1 := ⟨s.size - 1, by omega⟩
  have hmi : (s.size : Int) - 1 = (m : Int) := by omega
  have hl' : ∀ h : m < s.size, s[m]'h = c := fun h => hrun m h (by omega)
  have hlm := hl' (by omega)
  have HRUN := Lib.hid hrun
  have HBRK := Lib.hid hbrk
  clear hlast hl hl' hrun hbrk hne
  go_enter Try.func14, Try.ntmps14
  go_upto_block 0 with fail
  go_cut [4] from 11 to 24 (fun i wx => i = .int .i64 f ∧ ∃ n, wx = w.drewN n)
  case first =>
    go_wp2_with fail
    go_loopw [4] (fun i wr => ∃ g : Nat, f ≤ g ∧ g ≤ m ∧ i = .int .i64 g ∧ ∃ n, wr = w.drewN n) (fun i _ => (intOf i).toNat)
    case atStart => exact ⟨m, by omega, Nat.le_refl _, rfl, 0, rfl⟩
    case round =>
      obtain ⟨g, hg1, hg2, rfl, n, rfl⟩ := hrel
      by_cases hgf : g = f
      · subst hgf
        rcases Nat.eq_zero_or_pos g with h0 | h0
        · subst h0
          go_wp2_with fail
          go_quiet (fail)
          go_wp2_with fail
          go_meet
          exact ⟨rfl, _, World.drewN_drewN _ _ _⟩
        · obtain ⟨k, rfl⟩ : ∃ k, g = k + 1 := ⟨g - 1, by omega⟩
          have hk := HBRK.out k (by omega) rfl
          obtain ⟨c1, hc1⟩ : ∃ c1, s[k]'(by omega) = c1 := ⟨_, rfl⟩
          rw [hc1] at hk
          have hne3 : ¬ (c1.toNat = c.toNat) := fun h => hk (UInt8.toNat_inj.1 h)
          have hne4 : ((c1.toNat : Int) == (c.toNat : Int)) = false := by rw [beq_eq_false_iff_ne]; omega
          have hk1 : ((k + 1 : Nat) : Int) = (k : Int) + 1 := by omega
          rw [hk1]
          go_wp2_with fail
          go_quiet (fail)
          go_wp2_with fail
          go_meet
          exact ⟨by rw [hk1], _, World.drewN_drewN _ _ _⟩
      · obtain ⟨k, rfl⟩ : ∃ k, g = k + 1 := ⟨g - 1, by omega⟩
        have hk := HRUN.out k (by omega) (by omega)
        have hk1 : ((k + 1 : Nat) : Int) = (k : Int) + 1 := by omega
        rw [hk1]
        go_wp2_with fail
        go_quiet (fail)
        go_wp2_with fail
        go_roundw
        case rel => exact ⟨k, by omega, by omega, by go_num, _, rfl⟩
        case measure => simp [intOf]
  case rest =>
    obtain ⟨rfl, n, rfl⟩ := hcut
    clear HRUN HBRK hlm hne1 hne2
    by_cases hfm : f = m
    · have HFM := Lib.hid hfm
      have e1 : blockR s f = ⟨(hexL s.data.toList).toArray⟩ := by unfold blockR; rw [if_pos (by omega)]
      have cp := fun w => hput s w hs
      rw [← e1] at cp
      have hfi : ((f : Int) == (m : Int)) = true := by simp [hfm]
      have hfi2 : (f : Int) = (m : Int) := by omega
      clear e1
      go_wp2_with fail
      refine Calls.mono (cp _) ?_
      rintro e w3 ⟨rfl, hb3⟩
      go_wp2_with fail
      go_ret
      exact ⟨by rw [HFM.out]; rfl, below_of_drewN hb3⟩
    · have e1 : blockR s f = ⟨(hexL (s.data.toList.take (f + 1))).toArray⟩ ++ ⟨#[42]⟩ := by unfold blockR; rw [if_neg (by omega)]
      have hx : (s.extract 0 (f + 1)).data.toList = s.data.toList.take (f + 1) := by rw [Lib.extract_data]; simp
      have hxs : (s.extract 0 (f + 1)).size ≤ 100 := by rw [ByteArray.size_extract]; omega
      have cp := fun w => hput (s.extract 0 (f + 1)) w hxs
      rw [hx] at cp
      obtain ⟨U, hU⟩ : ∃ U : ByteArray, (⟨(hexL (s.data.toList.take (f + 1))).toArray⟩ : ByteArray) = U := ⟨_, rfl⟩
      have hUs : U.size ≤ 200 := by
        rw [← hU]
        show (hexL (s.data.toList.take (f + 1))).toArray.size ≤ 200
        have := List.length_take_le (f + 1) s.data.toList
        rw [List.size_toArray, hexL_len]; omega
      rw [hU] at cp e1
      have hfi : ((f : Int) == (m : Int)) = false := by rw [beq_eq_false_iff_ne]; omega
      have hfi2 : ¬ (f : Int) = (m : Int) := by omega
      have hf1 : (f : Int) + 1 ≤ (s.size : Int) := by omega
      have HE := Lib.hid e1
      clear e1 hx hU hxs
      go_wp2_with fail
      refine Calls.mono (cp _) ?_
      rintro e w3 ⟨rfl, hb3⟩
      go_wp2_with fail
      go_ret
      refine ⟨?_, below_of_drewN hb3⟩
      rw [HE.out]
      rfl
end Go.Proofs.Ytbncifmmahgfeaa
