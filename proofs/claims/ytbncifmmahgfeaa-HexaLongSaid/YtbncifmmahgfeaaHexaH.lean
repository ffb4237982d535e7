/-
  HexaBlocks.
-/
import Derived.Test.YtbncifmmahgfeaaHexaG
namespace Go.Proofs.Ytbncifmmahgfeaa
open Go.RowKit
set_option linter.unusedVariables false
set_option linter.unusedSimpArgs false

theorem block_step {w wr : World} {G j : Nat} {l : List UInt8} {c : UInt8} {t : TypeId} (hl : l.length = 32) (hx : wr.heap[G]? = some (.cells (bCells l).toArray t)) (hb : Below G w wr) :
    ∃ l' : List UInt8, l'.length = 32 ∧ (wr.setCell ⟨G, j, none⟩ (.int .u8 c.toNat)).heap[G]? = some (.cells (bCells l').toArray t) ∧ Below G w (wr.setCell ⟨G, j, none⟩ (.int .u8 c.toNat)) :=
  ⟨l.set j c, by rw [List.length_set]; exact hl, by rw [heap_set_self hx, bCells_set], hb.setCell (Nat.le_refl _) _⟩
set_option maxHeartbeats 1600000 in
set_option maxRecDepth 100000 in
theorem block_any (s : ByteArray) (w : World) (hs : s.size ≤ maxLen) : Calls Try.prog 12 #[.string s] w fun e w' => ∃ T : ByteArray, e = .returned (.string T) ∧ T.size = 32 ∧ (s = ⟨#[]⟩ → T = zeroL 32) ∧ Below w.heap.size w w' := by
  unfold maxLen at hs
  have hmk : ∀ w, (Instr.makeSlice 33 (.int .i64 32) (.int .i64 32)).run Try.prog w = .ok (.slice (some ⟨w.heap.size, 0, none⟩) 32 32) (w.alloc (.cells (bCells (List.replicate 32 0)).toArray 5)) := fun _ => by kernel_rfl
  have hx := heap_alloc_self w (.cells (bCells (List.replicate 32 0)).toArray 5)
  have hb0 : Below w.heap.size w (w.alloc (.cells (bCells (List.replicate 32 0)).toArray 5)) := (Below.refl _ _).alloc (Nat.le_refl _) _
  obtain ⟨l0, hl0⟩ : ∃ l : List UInt8, List.replicate 32 0 = l := ⟨_, rfl⟩
  rw [hl0] at hmk hx hb0
  have HL0 := Lib.hid hl0
  clear hl0
  go_enter Try.func12, Try.ntmps12
  go_upto_region 2 with fail
  generalize w.alloc (.cells (bCells l0).toArray 5) = w1 at *
  have HX := Lib.hid hx
  have HB := Lib.hid hb0
  clear hx hb0 hmk
  obtain ⟨G, hG⟩ : ∃ G, w.heap.size = G := ⟨_, rfl⟩
  rw [hG] at HX HB ⊢
  have hl0 : l0.length = 32 := by rw [← HL0.out]; simp
  by_cases h0 : s.size = 0
  · have hs0 : s = ⟨#[]⟩ := by
      have e : s = ByteArray.empty := by simpa using h0
      exact e.trans rfl
    subst hs0
    have hcv := conv_block (P := Try.prog) (src := 33) (dst := 9) Try.underlying33 Try.underlying5 Try.underlying9 32 hl0.symm HX.out
    go_wp2_with fail
    go_loopw [4] (fun i wr => i = .int .i64 0 ∧ wr = w1) (fun i _ => 0)
    case atStart => exact ⟨rfl, rfl⟩
    case round =>
      obtain ⟨rfl, rfl⟩ := hrel
      go_wp2_with fail
      go_ret
      exact ⟨_, rfl, by simpa [ByteArray.size] using hl0, by rw [← HL0.out]; rfl, HB.out⟩
  · have hp : 0 < (s.size : Int) := by omega
    have hne : s ≠ ⟨#[]⟩ := fun h => h0 (by rw [h]; rfl)
    go_wp2_with fail
    go_loopw [4] (fun i wr => ∃ j : Nat, j ≤ 32 ∧ i = .int .i64 j ∧ ∃ l : List UInt8, l.length = 32 ∧ wr.heap[G]? = some (.cells (bCells l).toArray 5) ∧ Below G w wr) (fun i _ => 32 - (intOf i).toNat)
    case atStart => exact ⟨0, by omega, rfl, l0, hl0, HX.out, HB.out⟩
    case round =>
      obtain ⟨j, hj, rfl, l, hl, hx, hbr⟩ := hrel
      have HXr := Lib.hid hx
      have HBr := Lib.hid hbr
      by_cases hlt : j < 32
      · have hc : wr.cell? ⟨G, j, none⟩ = some (.int .u8 (l.getD j 0).toNat) := by
          simp [World.cell?, hx, bCells, List.getD, hl, hlt]
        have hf : wr.frozen? ⟨G, j, none⟩ = false := by simp [World.frozen?, hx]
        have ht0 : 0 ≤ (j : Int) % (s.size : Int) := Int.emod_nonneg _ (by omega)
        have ht1 : (j : Int) % (s.size : Int) < (s.size : Int) := Int.emod_lt_of_pos _ hp
        have ht2 : j % s.size < s.size := Nat.mod_lt _ (by omega)
        clear hx hbr
        go_wp2_with fail
        go_roundw
        case rel => exact ⟨j + 1, by omega, by go_num, block_step hl HXr.out HBr.out⟩
        case measure => simp [intOf]; omega
      · have hcv := conv_block (P := Try.prog) (src := 33) (dst := 9) Try.underlying33 Try.underlying5 Try.underlying9 32 hl.symm hx
        obtain rfl : j = 32 := by omega
        clear hx hbr
        go_wp2_with fail
        go_ret
        exact ⟨_, rfl, by simpa [ByteArray.size] using hl, fun h => absurd h hne, by rw [hG]; exact HBr.out⟩

theorem last_run (s : ByteArray) (hs : 0 < s.size) : ∃ f c, f < s.size ∧ (∀ k (h : k < s.size), f ≤ k → s[k]'h = c) ∧ ∀ k (h : k < s.size), k + 1 = f → s[k]'h ≠ c := by
  obtain ⟨m, hm⟩ : ∃ m, s.size = m + 1 := ⟨s.size - 1, by omega⟩
  have key : ∀ n, n ≤ m → ∃ f, m - n ≤ f ∧ f ≤ m ∧ (∀ k (h : k < s.size), f ≤ k → s[k]'h = s[m]'(by omega)) ∧ (f = m - n ∨ ∀ k (h : k < s.size), k + 1 = f → s[k]'h ≠ s[m]'(by omega)) := by
    intro n
    induction n with
    | zero => intro _; exact ⟨m, by omega, Nat.le_refl _, fun k h hk => (by obtain rfl : k = m := (by omega); rfl), .inl (by omega)⟩
    | succ n ih =>
      intro hn
      obtain ⟨f, h1, h2, h3, h4⟩ := ih (by omega)
      rcases h4 with h4 | h4
      · by_cases hc : s[m - n - 1]'(by omega) = s[m]'(by omega)
        · refine ⟨f - 1, by omega, by omega, fun k h hk => ?_, .inl (by omega)⟩
          by_cases hkf : f ≤ k
          · exact h3 k h hkf
          · have : k = m - n - 1 := by omega
            subst this
            exact hc
        · exact ⟨f, by omega, h2, h3, .inr fun k h hk => by
            have : k = m - n - 1 := by omega
            subst this
            exact hc⟩
      · exact ⟨f, by omega, h2, h3, .inr h4⟩
  obtain ⟨f, h1, h2, h3, h4⟩ := key m (Nat.le_refl _)
  refine ⟨f, s[m]'(by omega), by omega, h3, ?_⟩
  rcases h4 with h4 | h4
  · intro k h hk; omega
  · exact h4
theorem dig_star : ∀ q : Fin 16, (dig q.val == 42) = false := by decide
theorem toList_len (b : ByteArray) : b.data.toList.length = b.size := by rw [Array.length_toList]; rfl
/-- what Block says, Long takes back -/
theorem long_block (b : ByteArray) (f : Nat) (c : UInt8) (w : World) (hs : b.size = 32) (hf : f < 32) (hrun : ∀ k (h : k < b.size), f ≤ k → b[k]'h = c) :
    Calls Try.prog 13 #[.string (blockR b f)] w fun e w' => e = .returned (.tuple #[.string b, .int .i64 0, .int .i64 0]) ∧ Below w.heap.size w w' := by
  have hlen := toList_len b
  by_cases h31 : f = 31
  · subst h31
    have e1 : blockR b 31 = ⟨(hexL b.data.toList).toArray⟩ := by unfold blockR; rw [if_pos (by omega)]
    rw [e1]
    have hsz : (⟨(hexL b.data.toList).toArray⟩ : ByteArray).size = 64 := by
      show (hexL b.data.toList).toArray.size = 64
      rw [List.size_toArray, hexL_len]; omega
    have hsuf : Lib.hasSuffix (⟨(hexL b.data.toList).toArray⟩ : ByteArray).data.toList [42] = false := by
      have hb : b.data.toList = b.data.toList.take 31 ++ [b[31]'(by omega)] := by
        rw [← bytes_succ b 31 (by omega), show 31 + 1 = b.size by omega, bytes_all]
      have : hexL b.data.toList = (hexL (b.data.toList.take 31) ++ [dig ((b[31]'(by omega)).toNat / 16)]) ++ [dig ((b[31]'(by omega)).toNat % 16)] := by
        conv => lhs; rw [hb]
        rw [hexL_snoc]; simp
      show Lib.hasSuffix (hexL b.data.toList) [42] = false
      rw [this, star_of]
      exact dig_star ⟨(b[31]'(by omega)).toNat % 16, by omega⟩
    have hx : b.extract 31 (31 + 1) = ⟨#[c]⟩ := by
      have h := hrun 31 (by omega) (by omega)
      have : ByteArray.extract ⟨b.data.toList.toArray⟩ 31 (31 + 1) = ⟨((b.data.toList.drop 31).take (31 + 1 - 31)).toArray⟩ := str_extract _ _ _
      have e : (⟨b.data.toList.toArray⟩ : ByteArray) = b := rfl
      rw [e] at this
      rw [this]
      have hd : b.data.toList.drop 31 = [b[31]'(by omega)] := by
        have hl31 : 31 < b.data.toList.length := by omega
        rw [List.drop_eq_getElem_cons hl31, List.drop_eq_nil_of_le (by omega)]; rfl
      rw [hd, h]; rfl
    have h := hlong_ok _ _ b false 31 c w (fun w => csuffix _ _ false w (by omega) hsuf (by omega) rfl) (fun w => hget_put b w (by omega)) (by omega) (by omega) (.inl rfl) hx
    refine h.mono fun e w' hw => ⟨?_, hw.2⟩
    rw [hw.1]
    have : b ++ ⟨(List.replicate (31 - 31) c).toArray⟩ = b := str_ext (by simp)
    rw [this]
  · have e1 : blockR b f = ⟨(hexL (b.data.toList.take (f + 1))).toArray⟩ ++ ⟨#[42]⟩ := by unfold blockR; rw [if_neg (by omega)]
    have hx : (b.extract 0 (f + 1)).data.toList = b.data.toList.take (f + 1) := by rw [Lib.extract_data]; simp
    have hxs : (b.extract 0 (f + 1)).size = f + 1 := by rw [ByteArray.size_extract]; omega
    rw [e1, ← hx]
    obtain ⟨V, hV⟩ : ∃ V, b.extract 0 (f + 1) = V := ⟨_, rfl⟩
    rw [hV] at hx hxs ⊢
    have hvl := toList_len V
    have hU : (⟨(hexL V.data.toList).toArray⟩ : ByteArray).size = 2 * (f + 1) := by
      show (hexL V.data.toList).toArray.size = _
      rw [List.size_toArray, hexL_len]; omega
    obtain ⟨U, hUe⟩ : ∃ U : ByteArray, (⟨(hexL V.data.toList).toArray⟩ : ByteArray) = U := ⟨_, rfl⟩
    have hgp := fun w => hget_put V w (by omega)
    rw [hUe] at hgp hU ⊢
    have hsz : (U ++ ⟨#[42]⟩).size = U.size + 1 := by rw [ByteArray.size_append]; rfl
    have hsuf : Lib.hasSuffix (U ++ ⟨#[42]⟩).data.toList [42] = true := by
      have : (U ++ (⟨#[42]⟩ : ByteArray)).data.toList = U.data.toList ++ [42] := by simp
      rw [this, star_of]; rfl
    have hcutx : (if true = true then (U ++ ⟨#[42]⟩).extract 0 ((U ++ (⟨#[42]⟩ : ByteArray)).size - 1) else (U ++ ⟨#[42]⟩)) = U := by
      rw [if_pos rfl, hsz, Nat.add_sub_cancel]
      apply str_ext
      rw [Lib.extract_data]
      have hul := toList_len U
      have ha : (U ++ (⟨#[42]⟩ : ByteArray)).data.toList = U.data.toList ++ [42] := by simp
      rw [ha, ← hul]
      simp only [List.drop_zero, Nat.sub_zero]
      exact List.take_left' rfl
    have hxx : V.extract f (f + 1) = ⟨#[c]⟩ := by
      have h := hrun f (by omega) (Nat.le_refl _)
      have : ByteArray.extract ⟨V.data.toList.toArray⟩ f (f + 1) = ⟨((V.data.toList.drop f).take (f + 1 - f)).toArray⟩ := str_extract _ _ _
      have e : (⟨V.data.toList.toArray⟩ : ByteArray) = V := rfl
      rw [e] at this
      rw [this, hx]
      have hd : (b.data.toList.take (f + 1)).drop f = [b[f]'(by omega)] := by
        rw [bytes_succ b f (by omega), List.drop_append_of_le_length (by rw [List.length_take]; omega), List.drop_eq_nil_of_le (by rw [List.length_take]; omega)]; rfl
      rw [hd, h, show f + 1 - f = 1 by omega]; rfl
    have h := hlong_ok _ _ V true f c w (fun w => csuffix _ _ true w (by omega) hsuf (by omega) hcutx) hgp (by omega) (by omega) (.inr rfl) hxx
    refine h.mono fun e w' hw => ⟨?_, hw.2⟩
    rw [hw.1]
    have : V ++ ⟨(List.replicate (31 - f) c).toArray⟩ = b := by
      apply str_ext
      have e : (V ++ (⟨(List.replicate (31 - f) c).toArray⟩ : ByteArray)).data.toList = V.data.toList ++ List.replicate (31 - f) c := by simp
      rw [e, hx]
      apply List.ext_getElem
      · rw [List.length_append, List.length_take, List.length_replicate]; omega
      · intro k h1 h2
        by_cases hk : k < f + 1
        · rw [List.getElem_append_left (by rw [List.length_take]; omega)]
          simp
        · rw [List.getElem_append_right (by rw [List.length_take]; omega), List.getElem_replicate]
          exact (hrun k (by omega) (by omega)).symm
    rw [this]
end Go.Proofs.Ytbncifmmahgfeaa
