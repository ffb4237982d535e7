/-
  Layer 56's law: the bytes with runs, as few as they are; its waking call.
-/
import Derived.Test.YtlhjgpedmnjbpaaImgG
import Derived.Test.YtlhjgpedmnjbpaaMask
import Derived.Laws.OwnMore
import Derived.Lib.Slices
namespace Go.Proofs.Ytlhjgpedmnjbpaa
open Go.RowKit
set_option linter.unusedVariables false
set_option linter.unusedSimpArgs false

theorem mades_bI (n : Nat) : (madeCells (Value.int .u8 0).cells (n * 1)).toList = bCells (List.replicate n 0) := by
  rw [Nat.mul_one]
  show (madeCells #[Value.int .u8 0] n).toList = _
  rw [toList_madeCells_one]
  simp [bCells]
theorem row_cellI {w : World} {a : Option Addr} {len cap : Nat} {zs : List Int} (h : RowOf .i64 w a len cap zs) (hl : 0 < len) :
    ∃ b off, a = some ⟨b, off, none⟩ ∧ b < w.heap.size ∧ len ≤ maxLen ∧ ∀ j, j < len → w.cell? ⟨b, off + j, none⟩ = some (.int .i64 (zs.getD j 0)) := by
  rcases h with ⟨rfl, rfl, rfl, rfl⟩ | ⟨⟨b, off, spot⟩, rfl, hl', hm, hz, hc, hw⟩
  · omega
  · have c0 := hc 0 (by omega)
    have hs : spot = none := by
      have := World.cell?_spot c0
      simpa [Addr.add] using this
    subst hs
    have hb : b < w.heap.size := by
      have := World.block_lt_of_cell? w _ c0
      simpa [Addr.add] using this
    refine ⟨b, off, rfl, hb, by omega, fun j hj => ?_⟩
    have hcj := hc j (by omega)
    have ha : (⟨b, off, none⟩ : Addr).add j = ⟨b, off + j, none⟩ := by unfold Addr.add; split <;> simp_all
    rw [ha] at hcj
    exact hcj
theorem row_lenI {w : World} {a : Option Addr} {len cap : Nat} {zs : List Int} (h : RowOf .i64 w a len cap zs) : len ≤ maxLen := by
  rcases h with ⟨rfl, rfl, rfl, rfl⟩ | ⟨x, rfl, hl', hm, hz, hc, hw⟩
  · exact Nat.zero_le _
  · omega
def FewB (m : Nat) (w : World) (e : Ending) (w' : World) : Prop := ∃ T : List UInt8, e = .returned (.string ⟨T.toArray⟩) ∧ T.length ≤ m ∧ Below w.heap.size w w'
theorem bCells_set1 (l : List UInt8) (i : Nat) (c : UInt8) : (bCells l).set i (.int .u8 c.toNat) = bCells (l.set i c) := by simp [bCells, List.map_set]
theorem below_own_drew {w : World} {base n size : Nat} {e : TypeId} {v : Value} {xs : List Value} (h : w.ownsRow base e size v n xs) (q : Nat) : (w.drewN q).ownsRow base e size v n xs := owns_below h (below_drewN' (Below.refl _ _) q)
set_option maxHeartbeats 6400000 in
set_option maxRecDepth 100000 in
theorem bytes56 (s : List UInt8) (a : Option Addr) (len cap : Nat) (zs : List Int) (w : World) (hs : s.length ≤ maxLen) (hr : RowOf .i64 w a len cap zs) :
    Calls Try.prog 63 #[.string ⟨s.toArray⟩, .slice a len cap] w (FewB 600 w) := by
  have hlm := row_lenI hr
  unfold maxLen at hs hlm
  have hst : ByteArray.extract ⟨s.toArray⟩ 0 (min s.length 60) = ⟨(s.take (min s.length 60)).toArray⟩ := str_take s _
  have hmin : min (s.length : Int) 60 = ((min s.length 60 : Nat) : Int) := by omega
  obtain ⟨m0, hm0⟩ : ∃ m0, min s.length 60 = m0 := ⟨_, rfl⟩
  rw [hm0] at hst hmin
  have hm1 : (m0 : Int) ≤ (s.length : Int) := by omega
  have hm2 : m0 ≤ s.length := by omega
  have hm3 : m0 ≤ 60 := by omega
  have hT0 : (s.take m0).length ≤ 60 := by rw [List.length_take]; omega
  obtain ⟨T0, hT0e⟩ : ∃ T0, s.take m0 = T0 := ⟨_, rfl⟩
  rw [hT0e] at hst hT0
  have HR := Lib.hid hr
  clear hr hm0 hT0e
  go_enter Try.func63, Try.ntmps63
  go_wp2_with fail
  go_loopw [5, 6] (fun tv iv wr => ∃ (T : List UInt8) (k : Nat), tv = .string ⟨T.toArray⟩ ∧ iv = .int .i64 k ∧ k ≤ 8 ∧ T.length ≤ 60 + 63 * k ∧ Below w.heap.size w wr) (fun _ iv _ => 8 - (intOf iv).toNat)
  case atStart => exact ⟨T0, 0, rfl, rfl, by omega, by omega, Below.refl _ _⟩
  case round =>
    obtain ⟨T, k, rfl, rfl, hk, hT, hb⟩ := hrel
    have HB := Lib.hid hb
    clear hb
    by_cases hkl : k < len
    · have hkli : (k : Int) < (len : Int) := by omega
      by_cases h8 : k < 8
      · have h8i : (k : Int) < 8 := by omega
        by_cases hTe : T.length = 0
        · go_wp2_with fail
          go_ret
          exact ⟨T, rfl, by omega, HB.out⟩
        · have hTi : (0 : Int) < (T.length : Int) := by omega
          have hTn : 0 < T.length := by omega
          obtain ⟨b, off, rfl, hbl, _, hcell⟩ := row_cellI HR.out (by omega)
          have cz : wr.cell? ⟨b, off + k, none⟩ = some (.int .i64 (zs.getD k 0)) := (HB.out.cell (p := ⟨b, off + k, none⟩) hbl).trans (hcell k hkl)
          obtain ⟨z, hz⟩ : ∃ z, zs.getD k 0 = z := ⟨_, rfl⟩
          rw [hz] at cz
          have hz1 := mask_mod z 8 255 (by decide) (by decide)
          have hz2 := mask_mod (z / 256) 6 63 (by decide) (by decide)
          obtain ⟨Z, hZ⟩ : ∃ Z : Nat, (z % ((2 ^ 8 : Nat) : Int)) = Z := ⟨(z % ((2 ^ 8 : Nat) : Int)).toNat, by omega⟩
          obtain ⟨m, hm⟩ : ∃ m : Nat, (z / 256 % ((2 ^ 6 : Nat) : Int)) = m := ⟨(z / 256 % ((2 ^ 6 : Nat) : Int)).toNat, by omega⟩
          have hmle : m ≤ 63 := by omega
          rw [hZ] at hz1
          rw [hm] at hz2
          have hZi : (0 : Int) ≤ (Z : Int) := by omega
          obtain ⟨k2, hk2⟩ : ∃ k2 : Nat, Z % T.length = k2 := ⟨_, rfl⟩
          have hk2l : k2 < T.length := by rw [← hk2]; exact Nat.mod_lt _ hTn
          have hk2e : (Z : Int) % (T.length : Int) = (k2 : Int) := by rw [← hk2]; exact (Int.natCast_emod Z T.length).symm
          have hk2i : (k2 : Int) < (T.length : Int) := by omega
          obtain ⟨i0, hi, hz0, hz1', hz2'⟩ := info_parts info_u8
          obtain ⟨w2, hmk, hown, hgr⟩ := run_make_full (P := Try.prog) (w := wr) wr.heap.size 155 5 i0 _ 1 Try.underlying155 hi hz0 hz1' .i64 .i64 m (by rw [hz2']; omega) (by unfold maxLen; omega) (Nat.le_refl _)
          rw [mades_bI] at hown
          have hb2 : Below wr.heap.size wr w2 := (Below.refl _ wr).grown hgr (Nat.le_refl _) (fun k e => by cases e)
          obtain ⟨c, hc⟩ : ∃ c, T.getD k2 0 = c := ⟨_, rfl⟩
          have hidx := str_idx T k2 (by simpa [ByteArray.size] using hk2l)
          rw [hc] at hidx
          have HI := Lib.hid hidx
          have HO := Lib.hid hown
          have HB2 := Lib.hid hb2
          have HN0 := Lib.hid HB.out.size
          clear hown hgr hb2 hZ hm hk2 hz hc hidx hcell
          obtain ⟨g, hg⟩ : ∃ g, wr.heap.size = g := ⟨_, rfl⟩
          rw [hg] at hmk HO HB2 HN0
          have hgT : (m : Int) ≤ 63 := by omega
          go_wp2_with fail
          try rw [hg]
          clear hmk hg
          obtain ⟨W0, hW0⟩ : ∃ W, wr = W := ⟨_, rfl⟩
          subst hW0
          go_loopw [9] (fun jv wr => ∃ (j : Nat) (l : List UInt8), jv = .int .i64 j ∧ j ≤ m ∧ l.length = m ∧ wr.ownsRow g 5 1 (.slice (some ⟨g, 0, none⟩) m m) m (bCells l) ∧ Below w.heap.size w wr) (fun jv _ => m - (intOf jv).toNat)
          case atStart => exact ⟨0, List.replicate m 0, rfl, by omega, by simp, HO.out, HB.out.trans (HB2.out.mono HN0.out)⟩
          case round =>
            obtain ⟨j, l, rfl, hj, hll, hown, hbr⟩ := hrel
            have HOW := Lib.hid hown
            have HBR := Lib.hid hbr
            have HLL := Lib.hid hll
            by_cases hjm : j < m
            · have hjmi : (j : Int) < (m : Int) := by omega
              have cj : wr.cell? ⟨g, j, none⟩ = some (.int .u8 (l.getD j 0).toNat) := by
                rw [hown.cellAt j (by omega)]
                simp [bCells, List.getD, show j < l.length by omega]
              have fj := hown.frozenAt j
              have cj2 : (j : Int) % 1 = 0 := by omega
              clear hown hbr hll
              go_wp2_with fail
              try rw [HI.out]
              go_roundw
              case rel =>
                have hst := HOW.out.stored j (.int .u8 c.toNat)
                refine ⟨j + 1, l.set j c, by go_num, by omega, by rw [List.length_set]; exact HLL.out, ?_, HBR.out.setCell (p := ⟨g, j, none⟩) HN0.out _⟩
                rw [← bCells_set1]
                exact hst.1
              case measure => simp [intOf]; omega
            · have hjmi : ¬ (j : Int) < (m : Int) := by omega
              have hcv : ∀ q, (convert 155 9 (.slice (some ⟨g, 0, none⟩) m m)).run Try.prog (wr.drewN q) = .ok (.string ⟨l.toArray⟩) (wr.drewN q) := fun q =>
                OwnB.string (P := Try.prog) Try.underlying155 Try.underlying5 Try.underlying9 (OwnB.of_owns (below_own_drew hown q))
              have e1 := str_take T k2
              have e2 := str_drop T k2
              obtain ⟨A, hA⟩ : ∃ A, T.take k2 = A := ⟨_, rfl⟩
              obtain ⟨C, hC⟩ : ∃ C, T.drop k2 = C := ⟨_, rfl⟩
              have hAl : A.length ≤ T.length := by rw [← hA, List.length_take]; omega
              have hAC : A.length + C.length = T.length := by rw [← hA, ← hC, List.length_take, List.length_drop]; omega
              rw [hA] at e1
              rw [hC] at e2
              have e3 := str_append A l
              have e4 := str_append (A ++ l) C
              have h63 : ¬ 9223372036854775807 < A.length + l.length := by omega
              have h63b : ¬ 9223372036854775807 < A.length + l.length + C.length := by omega
              have h63c : A.length + l.length ≤ 9223372036854775807 := by omega
              have h63d : A.length + l.length + C.length ≤ 9223372036854775807 := by omega
              have h63e : ¬ 9223372036854775807 < (A ++ l).length + C.length := by rw [List.length_append]; omega
              clear hown hbr hA hC
              go_wp2_with fail
              go_quiet (fail)
              go_wp2_with fail
              go_roundw
              case rel => exact ⟨A ++ (l ++ C), k + 1, rfl, by go_num, by omega, by have := HLL.out; simp only [List.length_append]; omega, below_drewN' HBR.out _⟩
              case measure => simp [intOf]; omega
      · have h8i : ¬ (k : Int) < 8 := by omega
        go_wp2_with fail
        go_ret
        exact ⟨T, rfl, by omega, HB.out⟩
    · have hkli : ¬ (k : Int) < (len : Int) := by omega
      go_wp2_with fail
      go_ret
      exact ⟨T, rfl, by omega, HB.out⟩
end Go.Proofs.Ytlhjgpedmnjbpaa
