/-
  The waking call of layer 44; HexaPuts.
-/
import Derived.Test.YtbncifmmahgfeaaHexaC
namespace Go.Proofs.Ytbncifmmahgfeaa
open Go.RowKit
set_option linter.unusedVariables false
set_option linter.unusedSimpArgs false

theorem zeros_any (w : World) : Calls Try.prog 17 #[] w fun e w' => e = .returned (.string (zeroL 32)) ∧ w = w' := by
  go_enter Try.func17, Try.ntmps17
  go_wp2_with fail
  go_ret
  exact ⟨rfl, rfl⟩
set_option maxRecDepth 100000 in
theorem zero_get (k : Nat) (h : k < (zeroL 32).size) : (zeroL 32)[k]'h = 0 := by
  have h32 : k < 32 := h
  have hf : ∀ q : Fin 32, (zeroL 32)[q.val]'q.isLt = 0 := by decide
  exact hf ⟨k, h32⟩
set_option maxRecDepth 100000 in
theorem zero_block (w : World) : Calls Try.prog 14 #[.string (zeroL 32)] w fun e w' => e = .returned (.string ⟨#[48, 48, 42]⟩) ∧ Below w.heap.size w w' := by
  have h := hblock (zeroL 32) 0 0 w (by decide) (by decide) (fun h => zero_get _ _) (fun k h _ => zero_get _ _) (fun k h e => by omega)
  have e : blockR (zeroL 32) 0 = ⟨#[48, 48, 42]⟩ := by decide
  rw [e] at h
  exact h
set_option maxHeartbeats 1600000 in
set_option maxRecDepth 100000 in
theorem awake44 (w : World) : Calls Try.prog 9 #[] w fun e w' => e = .returned (.bool true) ∧ Below w.heap.size w w' := by
  have cl := fun w => hlong61 w
  have co := fun w => block_one 97 w
  obtain ⟨R, hR⟩ : ∃ R : ByteArray, (⟨(List.replicate 32 97).toArray⟩ : ByteArray) = R := ⟨_, rfl⟩
  rw [hR] at cl co
  have cz := fun w => zeros_any w
  have cb := fun w => zero_block w
  obtain ⟨Z, hZ⟩ : ∃ Z, zeroL 32 = Z := ⟨_, rfl⟩
  rw [hZ] at cz cb
  clear hZ hR
  go_enter Try.func9, Try.ntmps9
  go_wp2_with fail
  refine Calls.mono (cl _) ?_
  rintro e w2 ⟨rfl, hb2⟩
  have HB2 := Lib.hid hb2
  clear hb2
  go_wp2_with fail
  refine Calls.mono (cz _) ?_
  rintro e w3 ⟨rfl, rfl⟩
  go_wp2_with fail
  refine Calls.mono (cb _) ?_
  rintro e w4 ⟨rfl, hb4⟩
  have HB4 := Lib.hid (below_trans HB2.out hb4 HB2.out.size)
  clear hb4
  go_wp2_with fail
  refine Calls.mono (co _) ?_
  rintro e w5 ⟨rfl, hb5⟩
  have HB5 := Lib.hid (below_trans HB4.out hb5 HB4.out.size)
  clear hb5
  go_wp2_with fail
  go_ret
  exact ⟨ret_bool (by simp), HB5.out⟩
theorem digV_dig : ∀ q : Fin 16, digV (dig q.val) = some q.val := by decide
theorem hexL_even (l : List UInt8) (k : Nat) (hk : k < l.length) : (hexL l).getD (2 * k) 0 = dig ((l.getD k 0).toNat / 16) ∧ (hexL l).getD (2 * k + 1) 0 = dig ((l.getD k 0).toNat % 16) := by
  induction l generalizing k with
  | nil => simp at hk
  | cons c l ih =>
    have e : hexL (c :: l) = dig (c.toNat / 16) :: dig (c.toNat % 16) :: hexL l := rfl
    rw [e]
    cases k with
    | zero => exact ⟨rfl, rfl⟩
    | succ k =>
      have := ih k (by simpa using hk)
      rw [show 2 * (k + 1) = 2 * k + 1 + 1 by omega]
      simpa using this
theorem hex_good (l : List UInt8) (i : Nat) (hi : i < (hexL l).length) : (digV ((hexL l).getD i 0)).isSome = true := by
  rw [hexL_len] at hi
  have hk := hexL_even l (i / 2) (by omega)
  have h256 := (l.getD (i / 2) 0).toNat_lt
  rcases Nat.mod_two_eq_zero_or_one i with h | h
  · rw [show i = 2 * (i / 2) by omega, hk.1]
    have := digV_dig ⟨(l.getD (i / 2) 0).toNat / 16, by omega⟩
    rw [this]; rfl
  · rw [show i = 2 * (i / 2) + 1 by omega, hk.2]
    have := digV_dig ⟨(l.getD (i / 2) 0).toNat % 16, by omega⟩
    rw [this]; rfl
theorem hex_back (l : List UInt8) : valL ⟨(hexL l).toArray⟩ l.length = l := by
  apply List.ext_getElem
  · rw [valL_len]
  · intro k h1 h2
    have hk := hexL_even l k h2
    have h256 := (l.getD k 0).toNat_lt
    have d1 := digV_dig ⟨(l.getD k 0).toNat / 16, by omega⟩
    have d2 := digV_dig ⟨(l.getD k 0).toNat % 16, by omega⟩
    have e : (valL ⟨(hexL l).toArray⟩ l.length)[k] = pairB ⟨(hexL l).toArray⟩ k := by simp [valL]
    rw [e]
    unfold pairB
    have g1 : digN ((hexL l).getD (2 * k) 0) = (l.getD k 0).toNat / 16 := by rw [hk.1]; unfold digN; rw [d1]; rfl
    have g2 : digN ((hexL l).getD (2 * k + 1) 0) = (l.getD k 0).toNat % 16 := by rw [hk.2]; unfold digN; rw [d2]; rfl
    show UInt8.ofNat (16 * digN ((hexL l).getD (2 * k) 0) + digN ((hexL l).getD (2 * k + 1) 0)) = l[k]
    rw [g1, g2]
    have e2 : l.getD k 0 = l[k] := by simp [List.getD, h2]
    rw [e2]
    have : 16 * (l[k].toNat / 16) + l[k].toNat % 16 = l[k].toNat := by omega
    rw [this]
    simp
theorem hget_put (T : ByteArray) (w : World) (hT : T.size ≤ 100) : Calls Try.prog 7 #[.string ⟨(hexL T.data.toList).toArray⟩] w fun e w' => e = .returned (.tuple #[.string T, .int .i64 0, .int .i64 0]) ∧ Below w.heap.size w w' := by
  have hl : T.data.toList.length = T.size := by rw [Array.length_toList]; rfl
  have hs : (⟨(hexL T.data.toList).toArray⟩ : ByteArray).size = 2 * T.size := by
    show (hexL T.data.toList).toArray.size = _
    rw [List.size_toArray, hexL_len, hl]
  have h := hget ⟨(hexL T.data.toList).toArray⟩ (2 * T.size) w (by omega) (by omega) (fun k h hk => by
    rw [← getD_at]
    exact hex_good _ _ (by rw [hexL_len, hl]; exact hk)) (fun h => by omega)
  have e : getR ⟨(hexL T.data.toList).toArray⟩ (2 * T.size) = .tuple #[.string T, .int .i64 0, .int .i64 0] := by
    unfold getR
    rw [if_neg (by omega), if_neg (by omega), hs, show 2 * T.size / 2 = T.data.toList.length by omega, hex_back]
  rw [e] at h
  exact h
set_option maxHeartbeats 1600000 in
set_option maxRecDepth 100000 in
theorem hexaputs_law (s : ByteArray) (w : World) (hs : s.size ≤ maxLen) : Calls Try.prog 3 #[.string s] w fun e w' => e = .returned (.bool true) ∧ Below w.heap.size w w' := by
  obtain ⟨t, ht⟩ : ∃ t, min (s.size : Int) 100 = t := ⟨_, rfl⟩
  have ht1 : t ≤ 100 := by omega
  have ht2 : t ≤ (s.size : Int) := by omega
  have ht0 : 0 ≤ t := by omega
  obtain ⟨T, hT⟩ : ∃ T : ByteArray, s.extract 0 t.toNat = T := ⟨_, rfl⟩
  have hTs : T.size ≤ 100 := by rw [← hT, ByteArray.size_extract]; omega
  have cp := fun w => hput T w hTs
  have cr := fun w => rput T w hTs
  have cg := fun w => hget_put T w hTs
  obtain ⟨H, hH⟩ : ∃ H : ByteArray, (⟨(hexL T.data.toList).toArray⟩ : ByteArray) = H := ⟨_, rfl⟩
  rw [hH] at cp cr cg
  unfold maxLen at hs
  clear hH hTs
  go_enter Try.func3, Try.ntmps3
  go_wp2_with fail
  refine Calls.mono (cp _) ?_
  rintro e w2 ⟨rfl, hb2⟩
  have HB2 := Lib.hid hb2
  clear hb2
  go_wp2_with fail
  refine Calls.mono (cg _) ?_
  rintro e w3 ⟨rfl, hb3⟩
  have HB3 := Lib.hid (below_trans HB2.out hb3 HB2.out.size)
  clear hb3
  go_wp2_with fail
  refine Calls.mono (awake44 _) ?_
  rintro e w4 ⟨rfl, hb4⟩
  have HB4 := Lib.hid (below_trans HB3.out hb4 HB3.out.size)
  clear hb4
  go_wp2_with fail
  refine Calls.mono (cp _) ?_
  rintro e w5 ⟨rfl, hb5⟩
  have HB5 := Lib.hid (below_trans HB4.out hb5 HB4.out.size)
  clear hb5
  go_wp2_with fail
  refine Calls.mono (cr _) ?_
  rintro e w6 ⟨rfl, n, rfl⟩
  go_wp2_with fail
  go_ret
  exact ⟨ret_bool (by simp), below_drewN' HB5.out _⟩
end Go.Proofs.Ytbncifmmahgfeaa
