/-
  need: what may be asked for (tarnlaw28.Near), and with which byte each block of what is written begins. Written by gennear4.py.
-/
import Derived.Test.YtodjlaapmbnahaaNeedC
namespace Go.Proofs.Ytodjlaapmbnahaa
open Go.RowKit
set_option linter.unusedVariables false
set_option linter.unusedSimpArgs false

/-- so many blocks of 32 bytes, each with the mark behind its first byte, which is not 255 -/
def MarkB (k : Int) (D : ByteArray) (m : Nat) : Prop := D.size = 32 * m ∧ ∀ i, i < m → ∃ c d : UInt8, D.data.toList[32 * i]? = some c ∧ c ≠ 255 ∧ D.data.toList[32 * i + 1]? = some d ∧ (d.toNat : Int) = 48 + k % 64
def AskPost4 (k : Int) (w : World) (e : Ending) (w' : World) : Prop := ∃ W A L D S, e = .returned (.agg (askA W A L D S)) ∧ (Lit.int .i64 W).wf = true ∧ (Lit.int .i64 A).wf = true ∧ (Lit.int .i64 L).wf = true ∧ D.size ≤ maxLen ∧ (W = 1 → ∃ m, MarkB k D m) ∧ Below w.heap.size w w'
def AskAt4 (k : Int) (X : Nat) (w wx : World) : Prop := ∃ V H L D S, wx.heap[X + 1]? = some (.cells #[.int .i64 V, .int .i64 H, .int .i64 L, .string D, .bool S] 33) ∧ (Lit.int .i64 V).wf = true ∧ (Lit.int .i64 H).wf = true ∧ (Lit.int .i64 L).wf = true ∧ D.size ≤ maxLen ∧ (V = 1 → ∃ m, MarkB k D m) ∧ Below X w wx
theorem near_step4 {k : Int} {X j : Nat} {w3 w6 : World} {Dk E : ByteArray} {H : Int} {S : Bool} (hY : w6.heap[X + 1]? = some (.cells #[.int .i64 1, .int .i64 H, .int .i64 0, .string Dk, .bool S] 33)) (ho : Only (X + 1) w3 w6) (hs : MarkB k E (j + 1)) :
    ∃ Dn : ByteArray, MarkB k Dn (j + 1) ∧ ((w6.setCell ⟨X + 1, 3, none⟩ (.string E)).drew).heap[X + 1]? = some (.cells #[.int .i64 1, .int .i64 H, .int .i64 0, .string Dn, .bool S] 33) ∧ Only (X + 1) w3 (w6.setCell ⟨X + 1, 3, none⟩ (.string E)).drew :=
  ⟨E, hs, heap_set_self hY 3 _, (ho.set 3 _).drew⟩
theorem near_first4 {k : Int} {Dk sS Z : ByteArray} {j : Nat} {b0 b1 : UInt8} (hDk : MarkB k Dk j) (hs : ∃ l, sS.data.toList = b0 :: b1 :: l) (hb : b0 ≠ 255) (hb1 : (b1.toNat : Int) = 48 + k % 64) (h : 32 ≤ sS.size + Z.size) : MarkB k (Dk ++ (sS ++ Z).extract 0 32) (j + 1) := by
  refine ⟨near_size hDk.1 h, fun i hi => ?_⟩
  have hl : Dk.data.toList.length = 32 * j := by rw [← hDk.1]; show Dk.data.toList.length = Dk.data.size; simp
  rw [show (Dk ++ (sS ++ Z).extract 0 32).data.toList = Dk.data.toList ++ ((sS ++ Z).extract 0 32).data.toList by simp]
  by_cases hij : i < j
  · rw [List.getElem?_append_left (by omega), List.getElem?_append_left (by omega)]
    exact hDk.2 i hij
  · obtain rfl : i = j := by omega
    rw [List.getElem?_append_right (by omega), hl, Nat.sub_self, List.getElem?_append_right (by omega), hl, Nat.add_sub_cancel_left]
    obtain ⟨l, hl2⟩ := hs
    refine ⟨b0, b1, ?_, hb, ?_, hb1⟩
    · rw [Lib.extract_data, show (sS ++ Z).data.toList = sS.data.toList ++ Z.data.toList by simp, hl2]
      rfl
    · rw [Lib.extract_data, show (sS ++ Z).data.toList = sS.data.toList ++ Z.data.toList by simp, hl2]
      rfl
set_option maxHeartbeats 1600000 in
set_option maxRecDepth 100000 in
theorem anear4 (W A L : Int) (D : ByteArray) (S : Bool) (B k : Int) (w : World) (hW : (Lit.int .i64 W).wf = true) (hA : (Lit.int .i64 A).wf = true) (hL : (Lit.int .i64 L).wf = true) (hB : (Lit.int .i64 B).wf = true) (hk : (Lit.int .i64 k).wf = true) (hD : D.size ≤ maxLen) :
    Calls Try.prog 17 #[.agg (askA W A L D S), .int .i64 B, .int .i64 k] w (AskPost4 k w) := by
  have h3 := mask3 W
  have hFA : bits .and .i64 A 65535 = A % 65536 := mask_mod A 16 65535 (by decide) (by decide)
  have hFL : bits .and .i64 L 255 = L % 256 := mask_mod L 8 255 (by decide) (by decide)
  unfold askA
  go_enter Try.func17, Try.ntmps17
  go_upto_region 2 with fail
  obtain ⟨n, hn⟩ : ∃ n, max B 1 = n := ⟨_, rfl⟩
  have hn1 : 1 ≤ n := by omega
  have hn2 : n ≤ 9223372036854775807 := by have := wf_le hB; omega
  rw [hn]
  obtain ⟨F, hF⟩ : ∃ F, A % 65536 = F := ⟨_, rfl⟩
  obtain ⟨Q, hQ⟩ : ∃ F, L % 256 = F := ⟨_, rfl⟩
  rw [hF] at hFA
  rw [hQ] at hFL
  have hF0 : 0 ≤ F := by omega
  have hF1 : F ≤ 65535 := by omega
  have hQ0 : 0 ≤ Q := by omega
  have hQ1 : Q ≤ 255 := by omega
  obtain ⟨g, hg⟩ : ∃ g, F.tmod n = g := ⟨_, rfl⟩
  have hg0 : 0 ≤ g := by rw [← hg]; exact Int.tmod_nonneg _ hF0
  have hg1 : g ≤ 65535 := by
    have : F.tmod n ≤ F := by
      rw [Int.tmod_eq_emod_of_nonneg hF0]
      obtain ⟨a, rfl⟩ := Int.eq_ofNat_of_zero_le hF0
      obtain ⟨b, rfl⟩ := Int.eq_ofNat_of_zero_le (by omega : 0 ≤ n)
      have := Nat.mod_le a b
      omega
    omega
  have t := two_new w (.cells #[.int .i64 W, .int .i64 A, .int .i64 L, .string D, .bool S] 33) (.cells #[.int .i64 0, .int .i64 0, .int .i64 0, .string ⟨#[]⟩, .bool false] 33)
  have hb2 : Below w.heap.size w ((w.alloc (.cells #[.int .i64 W, .int .i64 A, .int .i64 L, .string D, .bool S] 33)).alloc (.cells #[.int .i64 0, .int .i64 0, .int .i64 0, .string ⟨#[]⟩, .bool false] 33)) := by go_grown
  generalize (w.alloc (.cells #[.int .i64 W, .int .i64 A, .int .i64 L, .string D, .bool S] 33)).alloc (.cells #[.int .i64 0, .int .i64 0, .int .i64 0, .string ⟨#[]⟩, .bool false] 33) = w2 at *
  obtain ⟨X, hX⟩ : ∃ X, w.heap.size = X := ⟨_, rfl⟩
  rw [hX] at t hb2 ⊢
  obtain ⟨x2, y2⟩ := t
  have a0 : w2.cell? ⟨X, 0, none⟩ = some (.int .i64 W) := by simp [World.cell?, x2]
  have a1 : w2.cell? ⟨X, 1, none⟩ = some (.int .i64 A) := by simp [World.cell?, x2]
  have a2 : w2.cell? ⟨X, 2, none⟩ = some (.int .i64 L) := by simp [World.cell?, x2]
  have a3 : w2.cell? ⟨X, 3, none⟩ = some (.string D) := by simp [World.cell?, x2]
  have a4 : w2.cell? ⟨X, 4, none⟩ = some (.bool S) := by simp [World.cell?, x2]
  have y0 : w2.heap[X + 1]? = some (.cells #[.int .i64 0, .int .i64 0, .int .i64 0, .string ⟨#[]⟩, .bool false] 33) := y2
  have HX2 := Lib.hid x2
  have HY2 := Lib.hid y2
  have HB2 := Lib.hid hb2
  clear x2 y2 hb2 y0
  have f0 : ∀ j, w2.frozen? ⟨X + 1, j, none⟩ = false := fun j => by simp [World.frozen?, HY2.out]
  have e0 := f0 0
  have e1 := f0 1
  have e2 := f0 2
  have e3 := f0 3
  have e4 := f0 4
  have y0 : w2.cell? ⟨X + 1, 0, none⟩ = some (.int .i64 0) := by simp [World.cell?, HY2.out]
  have y1 : w2.cell? ⟨X + 1, 1, none⟩ = some (.int .i64 0) := by simp [World.cell?, HY2.out]
  have y2 : w2.cell? ⟨X + 1, 2, none⟩ = some (.int .i64 0) := by simp [World.cell?, HY2.out]
  have y3 : w2.cell? ⟨X + 1, 3, none⟩ = some (.string ⟨#[]⟩) := by simp [World.cell?, HY2.out]
  have y4 : w2.cell? ⟨X + 1, 4, none⟩ = some (.bool false) := by simp [World.cell?, HY2.out]
  clear f0 hF hQ hn hA hL hB hk hW
  go_region
  have k21 := heap_set_self HY2.out 0 (.int .i64 (W % 4))
  have k22 := heap_set_self k21 1 (.int .i64 (g * 32))
  have k23 := heap_set_self k22 2 (.int .i64 0)
  have k24 := heap_set_self k23 3 (.string ⟨#[]⟩)
  have k2 := heap_set_self k24 4 (.bool S)
  clear k21 k22 k23 k24 y0 y1 y2 y3 y4 a0 a1 a2 a3 a4
  have o2 := ((((((Only.refl (X + 1) w2).set 0 (.int .i64 (W % 4))).set 1 (.int .i64 (g * 32))).set 2 (.int .i64 0)).set 3 (.string ⟨#[]⟩)).set 4 (.bool S)).drew
  generalize (((((w2.setCell ⟨X + 1, 0, none⟩ (.int .i64 (W % 4))).setCell ⟨X + 1, 1, none⟩ (.int .i64 (g * 32))).setCell ⟨X + 1, 2, none⟩ (.int .i64 0)).setCell ⟨X + 1, 3, none⟩ (.string ⟨#[]⟩)).setCell ⟨X + 1, 4, none⟩ (.bool S)) = wq at *
  have y3 : wq.drew.heap[X + 1]? = some (.cells #[.int .i64 (W % 4), .int .i64 (g * 32), .int .i64 0, .string ⟨#[]⟩, .bool S] 33) := k2
  obtain ⟨w3, hw3⟩ : ∃ w3, wq.drew = w3 := ⟨_, rfl⟩
  rw [hw3] at o2 y3 ⊢
  have hw4 : W % 4 = 0 ∨ W % 4 = 1 ∨ W % 4 = 2 ∨ W % 4 = 3 := by omega
  obtain ⟨V, hV⟩ : ∃ V, W % 4 = V := ⟨_, rfl⟩
  rw [hV] at y3 hw4 ⊢
  obtain ⟨H, hH⟩ : ∃ H, g * 32 = H := ⟨_, rfl⟩
  rw [hH] at y3 ⊢
  have hH0 : 0 ≤ H := by omega
  have hH1 : H ≤ 2097120 := by omega
  have hdv : H.tdiv 32 = g := by rw [Int.tdiv_eq_ediv_of_nonneg hH0]; omega
  have x3 : w3.heap[X]? = some (.cells #[.int .i64 W, .int .i64 A, .int .i64 L, .string D, .bool S] 33) := (o2.block X (lt_heap HX2.out) (by omega)).trans HX2.out
  have b3 : Below X w w3 := HB2.out.trans (o2.below (by omega) (Nat.le_of_lt (lt_heap HX2.out)))
  have HX3 := Lib.hid x3
  have HY3 := Lib.hid y3
  have HB3 := Lib.hid b3
  have a0 : w3.cell? ⟨X, 0, none⟩ = some (.int .i64 W) := by simp [World.cell?, x3]
  have a1 : w3.cell? ⟨X, 1, none⟩ = some (.int .i64 A) := by simp [World.cell?, x3]
  have a2 : w3.cell? ⟨X, 2, none⟩ = some (.int .i64 L) := by simp [World.cell?, x3]
  have y0 : w3.cell? ⟨X + 1, 0, none⟩ = some (.int .i64 V) := by simp [World.cell?, y3]
  have y1 : w3.cell? ⟨X + 1, 1, none⟩ = some (.int .i64 H) := by simp [World.cell?, y3]
  clear hw3 k2 o2 e0 e1 e2 e3 e4 HX2 HY2 HB2 x3 y3 b3 hV hH hg hFA h3
  obtain ⟨M, hM⟩ : ∃ M, min 4 (max (n - g) 1) = M := ⟨_, rfl⟩
  have hM1 : 1 ≤ M := by omega
  have hM4 : M ≤ 4 := by omega
  obtain ⟨r, hr⟩ : ∃ r, Q.tmod M = r := ⟨_, rfl⟩
  have hr0 : 0 ≤ r := by rw [← hr]; exact Int.tmod_nonneg _ hQ0
  have hr1 : r ≤ 3 := by
    have : Q.tmod M < M := by
      rw [Int.tmod_eq_emod_of_nonneg hQ0]
      exact Int.emod_lt_of_pos _ (by omega)
    omega
  go_upto_block 0 with fail
  obtain ⟨c, hc⟩ : ∃ c, 1 + r = c := ⟨_, rfl⟩
  rw [hc]
  have hc1 : 1 ≤ c := by omega
  have hc4 : c ≤ 4 := by omega
  have y2 : w3.cell? ⟨X + 1, 2, none⟩ = some (.int .i64 0) := by simp [World.cell?, HY3.out]
  have y3 : w3.cell? ⟨X + 1, 3, none⟩ = some (.string ⟨#[]⟩) := by simp [World.cell?, HY3.out]
  have y4 : w3.cell? ⟨X + 1, 4, none⟩ = some (.bool S) := by simp [World.cell?, HY3.out]
  have f0 : ∀ j, w3.frozen? ⟨X + 1, j, none⟩ = false := fun j => by simp [World.frozen?, HY3.out]
  have e0 := f0 0
  have e1 := f0 1
  have e2 := f0 2
  have e3 := f0 3
  have e4 := f0 4
  have hsz := lt_heap HY3.out
  clear f0 hr hM hM1 hM4 hr0 hr1 hc hFL hdv
  go_cut [] (fun wx => AskAt4 k X w wx)
  case first =>
    rcases hw4 with rfl | rfl | rfl | rfl
    · go_wp2_with fail
      go_meet
      exact ⟨_, _, _, _, _, heap_set_self HY3.out 2 _, by decide, wf_of (by omega), wf_of (by omega), by decide, fun h => absurd h (by decide), HB3.out.setCell (by show X ≤ X + 1; omega) _⟩
    · clear y0 y1 y2 y3 y4 e0 e1 e2 e3 e4 a0 a1 a2
      go_wp2_with fail
      go_loopw [9] (fun i wr => ∃ j : Nat, (j : Int) ≤ c ∧ i = .int .i64 j ∧ ∃ Dk : ByteArray, MarkB k Dk j ∧ wr.heap[X + 1]? = some (.cells #[.int .i64 1, .int .i64 H, .int .i64 0, .string Dk, .bool S] 33) ∧ Only (X + 1) w3 wr) (fun i _ => 4 - (intOf i).toNat)
      case atStart => exact ⟨0, by omega, rfl, ⟨#[]⟩, ⟨rfl, fun i hi => absurd hi (Nat.not_lt_zero i)⟩, HY3.out, Only.refl _ _⟩
      case round =>
        obtain ⟨j, hj, rfl, Dk, hDkF, hY, hon⟩ := hrel
        have hDk := hDkF.1
        have HDF := Lib.hid hDkF
        clear hDkF
        have hxr := (hon.block X (lt_heap HX3.out) (by omega)).trans HX3.out
        have a3 : wr.cell? ⟨X, 3, none⟩ = some (.string D) := by simp [World.cell?, hxr]
        have HYr := Lib.hid hY
        have HXr := Lib.hid hxr
        have HOn := Lib.hid hon
        clear hY hon hxr
        by_cases hjc : (j : Int) < c
        · obtain ⟨tt, htt⟩ : ∃ tt : Int, min (D.size : Int) 20 = tt := ⟨_, rfl⟩
          have ht0 : 0 ≤ tt := by omega
          have ht1 : tt ≤ 20 := by omega
          have ht2 : tt ≤ (D.size : Int) := by omega
          have hk63 : bits .and .i64 k 63 = k % 64 := mask_mod k 6 63 (by decide) (by decide)
          obtain ⟨m1, hm1⟩ : ∃ m, k % 64 = m := ⟨_, rfl⟩
          have hm10 : 0 ≤ m1 := by omega
          have hm11 : m1 ≤ 63 := by omega
          rw [hm1] at hk63
          have hk64 : bits .and .i64 (k / 64) 63 = (k / 64) % 64 := mask_mod (k / 64) 6 63 (by decide) (by decide)
          obtain ⟨m2, hm2⟩ : ∃ m, (k / 64) % 64 = m := ⟨_, rfl⟩
          have hm20 : 0 ≤ m2 := by omega
          have hm21 : m2 ≤ 63 := by omega
          rw [hm2] at hk64
          obtain ⟨b0, hb0⟩ := byte_is (97 + (j : Int)) (by omega)
          obtain ⟨b1, hb1⟩ := byte_is (48 + m1) (by omega)
          obtain ⟨b2, hb2⟩ := byte_is (48 + m2) (by omega)
          have hb97 : b0.toNat = 97 + j := by omega
          have HB97 := Lib.hid (And.intro hb97 (show (b1.toNat : Int) = 48 + k % 64 by omega))
          clear hb97
          have hcv := conv3 Try.underlying68 Try.underlying5 Try.underlying9 wr b0 b1 b2 _ _ _ hb0 hb1 hb2
          have hXr : X < wr.heap.size := lt_heap HXr.out
          have a3a : (wr.alloc (.cells #[.int .u8 (97 + (j : Int)), .int .u8 (48 + m1), .int .u8 (48 + m2)] 5)).cell? ⟨X, 3, none⟩ = some (.string D) := (World.cell?_alloc_lt wr _ ⟨X, 3, none⟩ hXr).trans a3
          clear hm1 hm2 hb0 hb1 hb2
          go_upto_block 2 with fail
          go_cut [10] from 47 to 81 (fun _ wx => ∃ Dn : ByteArray, MarkB k Dn (j + 1) ∧ wx.heap[X + 1]? = some (.cells #[.int .i64 1, .int .i64 H, .int .i64 0, .string Dn, .bool S] 33) ∧ Only (X + 1) w3 wx)
          case first =>
            go_upto_region 12 with fail
            go_region
            have y6 := below_at ((Below.refl (X + 2) wr).alloc (by have := lt_heap HYr.out; omega) (.cells #[.int .u8 (97 + (j : Int)), .int .u8 (48 + m1), .int .u8 (48 + m2)] 5)) (by omega) HYr.out
            have o6 := (HOn.out.alloc (.cells #[.int .u8 (97 + (j : Int)), .int .u8 (48 + m1), .int .u8 (48 + m2)] 5)).drew
            have y6' : ((wr.alloc (.cells #[.int .u8 (97 + (j : Int)), .int .u8 (48 + m1), .int .u8 (48 + m2)] 5)).drew).heap[X + 1]? = some (.cells #[.int .i64 1, .int .i64 H, .int .i64 0, .string Dk, .bool S] 33) := y6
            generalize (wr.alloc (.cells #[.int .u8 (97 + (j : Int)), .int .u8 (48 + m1), .int .u8 (48 + m2)] 5)).drew = w6 at *
            obtain ⟨sS, hsS⟩ : ∃ sS : ByteArray, (⟨#[b0, b1, b2]⟩ : ByteArray) ++ D.extract 0 tt.toNat = sS := ⟨_, rfl⟩
            rw [hsS]
            have HSF := Lib.hid (show ∃ l, sS.data.toList = b0 :: b1 :: l from ⟨_, by rw [← hsS]; simp; rfl⟩)
            have hs7 : sS.size ≤ 23 := by
              rw [← hsS, ByteArray.size_append, ByteArray.size_extract]
              have : (⟨#[b0, b1, b2]⟩ : ByteArray).size = 3 := rfl
              omega
            have hj3 : j ≤ 3 := by omega
            have hz32 : (zeroL 32).size = 32 := rfl
            obtain ⟨Z, hZ⟩ : ∃ Z, zeroL 32 = Z := ⟨_, rfl⟩
            rw [hZ] at hz32
            have cz := fun w => zeros_any w
            rw [hZ] at cz
            have hs1 : (32 : Int) ≤ (sS.size : Int) + (Z.size : Int) := by omega
            have hs2 : (32 : Int) ≤ ((sS ++ Z).size : Int) := by rw [ByteArray.size_append]; omega
            have hs3 : 32 ≤ sS.size + Z.size := by omega
            have hs4 : 32 ≤ (sS ++ Z).size := by rw [ByteArray.size_append]; omega
            clear hZ
            have c3 : w6.cell? ⟨X + 1, 3, none⟩ = some (.string Dk) := by simp [World.cell?, y6']
            have f3 : w6.frozen? ⟨X + 1, 3, none⟩ = false := by simp [World.frozen?, y6']
            have HY6 := Lib.hid y6'
            have HO6 := Lib.hid o6
            clear y6 y6' o6 a3 hcv a3a hsS
            go_upto_region 13 with fail
            clear hD hn1 hn2 hF0 hF1 hQ0 hQ1 hg0 hg1 hH0 hH1 hm10 hm11 hm20 hm21 hk63 hk64 ht0 ht1 ht2 htt
            go_region_with (go_at_call 15; refine Calls.mono (cz _) ?_; rintro e wz ⟨rfl, rfl⟩)
            all_goals
              go_wp2_with fail
              go_meet
              exact near_step4 HY6.out HO6.out (near_first4 HDF.out HSF.out (by have := HB97.out.1; intro e; rw [e] at this; have : (255 : UInt8).toNat = 255 := rfl; omega) HB97.out.2 hs3)
          case rest =>
            obtain ⟨Dn, hDn, hYn, hon'⟩ := hcut
            have HYn := Lib.hid hYn
            have HOn' := Lib.hid hon'
            clear hYn hon'
            go_wp2_with fail
            go_roundw
            case rel => exact ⟨j + 1, by omega, by go_num, _, hDn, HYn.out, HOn'.out⟩
            case measure => simp [intOf]; omega
        · go_wp2_with fail
          go_meet
          exact ⟨_, _, _, _, _, HYr.out, by decide, wf_of (by omega), by decide, by unfold maxLen; omega, fun _ => ⟨_, HDF.out⟩, HB3.out.trans (HOn.out.below (by omega) (Nat.le_of_lt (lt_heap HX3.out)))⟩
    · go_wp2_with fail
      go_meet
      exact ⟨_, _, _, _, _, heap_set_self HY3.out 2 _, by decide, wf_of (by omega), wf_of (by omega), by decide, fun h => absurd h (by decide), HB3.out.setCell (by show X ≤ X + 1; omega) _⟩
    · go_wp2_with fail
      go_meet
      exact ⟨_, _, _, _, _, HY3.out, by decide, wf_of (by omega), by decide, by decide, fun h => absurd h (by decide), HB3.out⟩
  case rest =>
    obtain ⟨V', H', L', D', S', hY, v1, v2, v3, v4, v5, hb⟩ := hcut
    have V5 := Lib.hid v5
    clear v5
    obtain ⟨wz, hwz⟩ : ∃ wz, wz = wc := ⟨_, rfl⟩
    subst hwz
    have HZ := Lib.hid hb
    have d0 : wz.cell? ⟨X + 1, 0, none⟩ = some (.int .i64 V') := by simp [World.cell?, hY]
    have d1 : wz.cell? ⟨X + 1, 1, none⟩ = some (.int .i64 H') := by simp [World.cell?, hY]
    have d2 : wz.cell? ⟨X + 1, 2, none⟩ = some (.int .i64 L') := by simp [World.cell?, hY]
    have d3 : wz.cell? ⟨X + 1, 3, none⟩ = some (.string D') := by simp [World.cell?, hY]
    have d4 : wz.cell? ⟨X + 1, 4, none⟩ = some (.bool S') := by simp [World.cell?, hY]
    have gq : ∀ j, wz.frozen? ⟨X + 1, j, none⟩ = false := fun j => by simp [World.frozen?, hY]
    have FI := Lib.hid (show (((((wz.setCell ⟨X + 1, 0, none⟩ (.int .i64 V')).setCell ⟨X + 1, 1, none⟩ (.int .i64 H')).setCell ⟨X + 1, 2, none⟩ (.int .i64 L')).setCell ⟨X + 1, 3, none⟩ (.string D')).setCell ⟨X + 1, 4, none⟩ (.bool S')).heap[X + 1]? = some (.cells #[.int .i64 V', .int .i64 H', .int .i64 L', .string D', .bool S'] 33) from heap_set_self (heap_set_self (heap_set_self (heap_set_self (heap_set_self hY 0 _) 1 _) 2 _) 3 _) 4 _)
    have FB := Lib.hid (show Below X w (((((wz.setCell ⟨X + 1, 0, none⟩ (.int .i64 V')).setCell ⟨X + 1, 1, none⟩ (.int .i64 H')).setCell ⟨X + 1, 2, none⟩ (.int .i64 L')).setCell ⟨X + 1, 3, none⟩ (.string D')).setCell ⟨X + 1, 4, none⟩ (.bool S')) from by go_grown)
    clear hY e0 e1 e2 e3 e4 y0 y1 y2 y3 y4 a0 a1 a2 hb
    have e0 := gq 0
    have e1 := gq 1
    have e2 := gq 2
    have e3 := gq 3
    have e4 := gq 4
    clear gq
    go_wp2_with fail
    generalize (((((wz.setCell ⟨X + 1, 0, none⟩ (.int .i64 V')).setCell ⟨X + 1, 1, none⟩ (.int .i64 H')).setCell ⟨X + 1, 2, none⟩ (.int .i64 L')).setCell ⟨X + 1, 3, none⟩ (.string D')).setCell ⟨X + 1, 4, none⟩ (.bool S')) = wf at *
    have fi := FI.out
    have s0 : wf.cell? ⟨X + 1, 0, none⟩ = some (.int .i64 V') := by simp [World.cell?, fi]
    have s1 : wf.cell? ⟨X + 1, 1, none⟩ = some (.int .i64 H') := by simp [World.cell?, fi]
    have s2 : wf.cell? ⟨X + 1, 2, none⟩ = some (.int .i64 L') := by simp [World.cell?, fi]
    have s3 : wf.cell? ⟨X + 1, 3, none⟩ = some (.string D') := by simp [World.cell?, fi]
    have s4 : wf.cell? ⟨X + 1, 4, none⟩ = some (.bool S') := by simp [World.cell?, fi]
    clear fi
    refine bodyPost_ret (v := .agg #[.int .i64 V', .int .i64 H', .int .i64 L', .string D', .bool S']) (by simp [results, Try.results17, go_sem, s0, s1, s2, s3, s4]) rfl ?_
    exact ⟨_, _, _, _, _, rfl, v1, v2, v3, v4, V5.out, by rw [hX]; exact FB.out⟩
end Go.Proofs.Ytodjlaapmbnahaa
