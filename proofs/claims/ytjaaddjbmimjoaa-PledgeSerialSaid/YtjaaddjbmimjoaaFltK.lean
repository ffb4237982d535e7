/-
  FlatDoes' law.
-/
import Derived.Test.YtjaaddjbmimjoaaFltJ
namespace Go.Proofs.Ytjaaddjbmimjoaa
open Go.RowKit
set_option linter.unusedVariables false
set_option linter.unusedSimpArgs false

structure AskF where
  W : Int
  A : Int
  L : Int
  D : ByteArray
  S : Bool
def AskF.cells (a : AskF) : List Value := [.int .i64 a.W, .int .i64 a.A, .int .i64 a.L, .string a.D, .bool a.S]
def AskF.ok (a : AskF) : Prop := (Lit.int .i64 a.W).wf = true ∧ (Lit.int .i64 a.A).wf = true ∧ (Lit.int .i64 a.L).wf = true ∧ a.D.size ≤ maxLen
theorem fits_askF {w : World} (ys : List Value) (h : Fits w (.two (.int .i64) (.two (.int .i64) (.two (.int .i64) (.two .str (.two .bool .unit))))) ys) : ∃ x : AskF, ys = x.cells ∧ x.ok := by
  obtain ⟨x0, y0, e0, ⟨W, rfl, hW⟩, x1, y1, rfl, ⟨A, rfl, hA⟩, x2, y2, rfl, ⟨L, rfl, hL⟩, x3, y3, rfl, ⟨D, rfl, hD⟩, x4, y4, rfl, ⟨S, rfl⟩, rfl⟩ := h
  exact ⟨⟨W, A, L, D, S⟩, e0, hW, hA, hL, hD⟩
structure LRel (b g Y n : Nat) (w wr : World) : Prop where
  ex : ∃ L p cap, Blks L ∧ L.length = n ∧ FlatAt b g L wr ∧ VAt p cap L wr ∧ wr.heap[Y]? = some (.cells #[.slice (some ⟨p, 0, none⟩) n cap] 82) ∧ p ≠ g ∧ p ≠ Y
  below : Below w.heap.size w wr
theorem meas_40 {j : Nat} (h : (j : Int) < 40) : 40 - (intOf (.int .i64 ((j : Int) + 1))).toNat < 40 - (intOf (.int .i64 (j : Int))).toNat := by
  show 40 - ((j : Int) + 1).toNat < 40 - ((j : Int)).toNat
  omega
set_option maxHeartbeats 6400000 in
set_option maxRecDepth 100000 in
theorem flatdoes_law (B : Int) (a : Option Addr) (len cap : Nat) (k : Int) (w : World) (hB : (Lit.int .i64 B).wf = true) (hf : Fits w (.slice (.two (.int .i64) (.two (.int .i64) (.two (.int .i64) (.two .str (.two .bool .unit)))))) [.slice a len cap]) (hk : (Lit.int .i64 k).wf = true) :
    Calls Try.prog 5 #[.int .i64 B, .slice a len cap, .int .i64 k] w fun e w' => e = .returned (.bool true) ∧ Below w.heap.size w w' := by
  obtain ⟨rs, hrs, hel, hok⟩ := fits_rows (c := AskF.cells) (good := AskF.ok) fits_askF hf
  have hlc := hf.slice.1
  have hcm := hf.slice.2.1
  unfold maxLen at hcm
  have HE := Lib.hid (And.intro hrs (And.intro hel hok))
  have hm : bits .and .i64 B 31 = B % 32 := mask_mod B 5 31 (by decide) (by decide)
  obtain ⟨n, hn⟩ : ∃ n : Nat, B % 32 + 1 = (n : Int) := ⟨(B % 32 + 1).toNat, by omega⟩
  have hn2 : 1 + B % 32 = (n : Int) := by omega
  have hn32 : (n : Int) ≤ 32 := by omega
  have hn1 : (1 : Int) ≤ (n : Int) := by omega
  have cF := fnew n w (by omega) (by omega)
  have cV := fun w => rnew35 n w (by omega)
  unfold FNewP at cF
  unfold RNewP at cV
  clear hrs hel hok hf hB
  go_enter Try.func5, Try.ntmps5
  go_wp2_with fail
  refine Calls.mono cF ?_
  rintro e w2 ⟨b, g, rfl, hf2, hb, hg, hb2⟩
  clear cF
  go_wp2_with fail
  refine Calls.mono (cV _) ?_
  rintro e w3 ⟨v, rfl, hown, hb3⟩
  obtain ⟨p, c3, rfl, hV3, hp3, -⟩ := VAt.owns (L := List.replicate n (zeroL 32)) (by rw [List.length_replicate]; exact hown) (by rw [List.length_replicate]; omega)
  rw [List.length_replicate]
  have hb4 : Below w3.heap.size w3 (w3.alloc (.cells #[.slice (some ⟨p, 0, none⟩) n c3] 82)) := (Below.refl _ _).alloc (Nat.le_refl _) _
  have hf3 := hf2.below hb3 hf2.lt.1 hf2.lt.2
  have HR := Lib.hid (show LRel b g w3.heap.size n w (w3.alloc (.cells #[.slice (some ⟨p, 0, none⟩) n c3] 82)) from
    ⟨⟨_, p, c3, fun s hs => by rw [List.eq_of_mem_replicate hs, zeroL_size], List.length_replicate, hf3.below hb4 hf3.lt.1 hf3.lt.2, hV3.below hb4, heap_alloc_self _ _, by have := hf2.lt.2; omega, by have := hV3.2.2.2; omega⟩,
     (hb2.trans (hb3.mono hb2.size)).trans (hb4.mono (Nat.le_trans hb2.size hb3.size))⟩)
  have HY := Lib.hid (show b < w3.heap.size ∧ g < w3.heap.size ∧ w.heap.size ≤ b ∧ w.heap.size ≤ g ∧ w.heap.size ≤ w3.heap.size from ⟨hf3.lt.1, hf3.lt.2, hb, hg, Nat.le_trans hb2.size hb3.size⟩)
  clear hf2 hb hg hb2 hown hb3 hV3 hp3 hb4 hf3 cV
  go_upto_region 3 with fail
  generalize w3.alloc (.cells #[.slice (some ⟨p, 0, none⟩) n c3] 82) = w4 at *
  obtain ⟨Y, hY⟩ : ∃ Y, w3.heap.size = Y := ⟨_, rfl⟩
  rw [hY] at HR HY
  try rw [hY]
  clear hY
  go_wp2_with fail
  go_loopw [10] (fun i wr => ∃ j : Nat, j ≤ len ∧ j ≤ 40 ∧ i = .int .i64 (j : Int) ∧ Hid (LRel b g Y n w wr)) (fun i _ => 40 - (intOf i).toNat)
  case atStart => exact ⟨0, Nat.zero_le _, by decide, rfl, HR⟩
  case round =>
    clear HR
    obtain ⟨j, hj1, hj2, rfl, HR⟩ := hrel
    by_cases hin : j < len ∧ (j : Int) < 40
    · obtain ⟨hi1, hi2⟩ := hin
      have hi1' : (j : Int) < (len : Int) := by omega
      obtain ⟨x, hx⟩ : ∃ x, rs[j]? = some x := ⟨rs[j]'(by rw [HE.out.1]; exact hi1), List.getElem?_eq_getElem _⟩
      obtain ⟨-, b0, off, rfl, hb0, hcell⟩ := (HE.out.2.1.below HR.out.below).at_ hx
      have e0 : wr.cell? ⟨b0, off + j * 5, none⟩ = some (.int .i64 x.W) := hcell 0 (.int .i64 x.W) rfl
      have e1 : wr.cell? ⟨b0, off + j * 5 + 1, none⟩ = some (.int .i64 x.A) := hcell 1 (.int .i64 x.A) rfl
      have e2 : wr.cell? ⟨b0, off + j * 5 + 2, none⟩ = some (.int .i64 x.L) := hcell 2 (.int .i64 x.L) rfl
      have e3 : wr.cell? ⟨b0, off + j * 5 + 3, none⟩ = some (.string x.D) := hcell 3 (.string x.D) rfl
      have e4 : wr.cell? ⟨b0, off + j * 5 + 4, none⟩ = some (.bool x.S) := hcell 4 (.bool x.S) rfl
      have hmj : bits .and .i64 (j : Int) 31 = (j : Int) % 32 := mask_mod (j : Int) 5 31 (by decide) (by decide)
      obtain ⟨s, hs⟩ : ∃ s : Int, (j : Int) % 32 = s := ⟨_, rfl⟩
      rw [hs] at hmj
      have hs0 : 0 ≤ s := by omega
      have hs1 : s ≤ 31 := by omega
      have HX := Lib.hid (HE.out.2.2 x (List.mem_of_getElem? hx))
      clear hcell hx hb0 hs
      have co := odd_any x.W x.A x.L x.D x.S n (k / 2 ^ s.toNat) wr HX.out.1 HX.out.2.1 HX.out.2.2.1 (wf_of (by omega)) HX.out.2.2.2
      unfold AskPost askA at co
      go_wp2_with fail
      refine Calls.mono co ?_
      rintro e w5 ⟨W, A, Ln, D, S, rfl, q1, q2, q3, q4, hb5⟩
      obtain ⟨L, p', c', hBl, hLn, hfl, hv, hy, hpg, hpY⟩ := HR.out.ex
      obtain ⟨OK, E, OUT, L', hBl', hLn', hOE, hou, hrf, hfo⟩ := both L W A Ln D S q2 q3 q4 hBl (by omega) (by omega)
      unfold askA at hrf hfo
      unfold replyA at hfo
      rw [hLn] at hrf
      have r6 := heap_alloc_self w5 (.cells #[.int .i64 W, .int .i64 A, .int .i64 Ln, .string D, .bool S] 85)
      have b6 : Below w5.heap.size w5 (w5.alloc (.cells #[.int .i64 W, .int .i64 A, .int .i64 Ln, .string D, .bool S] 85)) := (Below.refl _ _).alloc (Nat.le_refl _) _
      have b56 : Below wr.heap.size wr (w5.alloc (.cells #[.int .i64 W, .int .i64 A, .int .i64 Ln, .string D, .bool S] 85)) := hb5.trans (b6.mono hb5.size)
      have H6 := Lib.hid (And.intro r6 (And.intro (hfl.below b56 hfl.lt.1 hfl.lt.2) (And.intro (hv.below b56) (And.intro (below_at b56 (lt_heap hy) hy) (And.intro (HR.out.below.trans (b56.mono HR.out.below.size)) (show wr.heap.size ≤ w5.heap.size ∧ p' < wr.heap.size ∧ Y < wr.heap.size ∧ p' ≠ g ∧ p' ≠ Y from ⟨hb5.size, hv.2.2.2, lt_heap hy, hpg, hpY⟩))))))
      have HC := Lib.hid (And.intro hrf (And.intro hfo (And.intro hBl' (And.intro (hLn'.trans hLn) (And.intro hOE hou)))))
      clear co e0 e1 e2 e3 e4 hb5 hBl hLn hfl hv hy hpg hpY hBl' hLn' hOE hou hrf hfo r6 b6 b56 q1 q2 q3 q4 HX hmj hs0 hs1
      go_upto_region 7 with fail
      generalize w5.alloc (.cells #[.int .i64 W, .int .i64 A, .int .i64 Ln, .string D, .bool S] 85) = w6 at *
      obtain ⟨X, hX⟩ : ∃ X, w5.heap.size = X := ⟨_, rfl⟩
      rw [hX] at H6
      try rw [hX]
      clear hX
      have k0 := cell_atF H6.out.1 0 (v := .int .i64 W) rfl
      have k1 := cell_atF H6.out.1 1 (v := .int .i64 A) rfl
      have k2 := cell_atF H6.out.1 2 (v := .int .i64 Ln) rfl
      have k3 := cell_atF H6.out.1 3 (v := .string D) rfl
      have k4 := cell_atF H6.out.1 4 (v := .bool S) rfl
      have y0 := cell_atF H6.out.2.2.2.1 0 (v := .slice (some ⟨p', 0, none⟩) n c') rfl
      have cr := HC.out.1 p' c' w6 H6.out.2.2.1
      go_wp2_with fail
      refine Calls.mono cr ?_
      rintro e w7 ⟨p2, c2, rfl, hv7, hp2, hb7⟩
      have r8 := heap_alloc_self w7 (.cells #[.slice (some ⟨p2, 0, none⟩) n c2] 82)
      have b8 : Below w7.heap.size w7 (w7.alloc (.cells #[.slice (some ⟨p2, 0, none⟩) n c2] 82)) := (Below.refl _ _).alloc (Nat.le_refl _) _
      have b68 : Below w6.heap.size w6 (w7.alloc (.cells #[.slice (some ⟨p2, 0, none⟩) n c2] 82)) := hb7.trans (b8.mono hb7.size)
      have H8 := Lib.hid (And.intro r8 (And.intro (hv7.below b8) (And.intro (below_at b68 (lt_heap H6.out.1) H6.out.1) (And.intro (H6.out.2.1.below b68 H6.out.2.1.lt.1 H6.out.2.1.lt.2) (And.intro (below_at b68 (lt_heap H6.out.2.2.2.1) H6.out.2.2.2.1) (And.intro (H6.out.2.2.2.2.1.trans (b68.mono H6.out.2.2.2.2.1.size)) (show X < w7.heap.size ∧ Y < X ∧ g < X ∧ b < X ∧ p2 ≠ g ∧ p2 ≠ Y ∧ p2 < w7.heap.size from by
        have h1 := lt_heap H6.out.1
        have h2 := hb7.size
        have h3 := HY.out
        obtain ⟨h4, h5, h6, h7, h8⟩ := H6.out.2.2.2.2.2
        have h9 := hv7.2.2.2
        refine ⟨by omega, by omega, by omega, by omega, ?_, ?_, h9⟩
        all_goals rcases hp2 with rfl | hp2
        all_goals first | assumption | omega)))))))
      clear k0 k1 k2 k3 k4 y0 cr hv7 hp2 hb7 r8 b8 b68 H6
      go_upto_region 8 with fail
      generalize w7.alloc (.cells #[.slice (some ⟨p2, 0, none⟩) n c2] 82) = w8 at *
      obtain ⟨N, hN⟩ : ∃ N, w7.heap.size = N := ⟨_, rfl⟩
      rw [hN] at H8
      try rw [hN]
      clear hN
      have n0 := cell_atF H8.out.1 0 (v := .slice (some ⟨p2, 0, none⟩) n c2) rfl
      have y0 := cell_atF H8.out.2.2.2.2.1 0 (v := .slice (some ⟨p', 0, none⟩) n c') rfl
      have yf : ∀ o, w8.frozen? ⟨Y, o, none⟩ = false := fun o => by simp [World.frozen?, H8.out.2.2.2.2.1]
      have H9 := Lib.hid (show (w8.setCell ⟨Y, 0, none⟩ (.slice (some ⟨p2, 0, none⟩) n c2)).heap[Y]? = some (.cells #[.slice (some ⟨p2, 0, none⟩) n c2] 82) ∧ FlatAt b g L (w8.setCell ⟨Y, 0, none⟩ (.slice (some ⟨p2, 0, none⟩) n c2)) ∧ VAt p2 c2 L' (w8.setCell ⟨Y, 0, none⟩ (.slice (some ⟨p2, 0, none⟩) n c2)) ∧ (w8.setCell ⟨Y, 0, none⟩ (.slice (some ⟨p2, 0, none⟩) n c2)).heap[X]? = some (.cells #[.int .i64 W, .int .i64 A, .int .i64 Ln, .string D, .bool S] 85) ∧ Below w.heap.size w (w8.setCell ⟨Y, 0, none⟩ (.slice (some ⟨p2, 0, none⟩) n c2)) ∧ p2 ≠ g ∧ p2 ≠ Y ∧ g < X ∧ Y < X from by
        obtain ⟨h1, h2, h3, h4, h5, h6, h7, h8, h9, h10, h11, h12, h13⟩ := H8.out
        have ho : Only Y w8 (w8.setCell ⟨Y, 0, none⟩ (.slice (some ⟨p2, 0, none⟩) n c2)) := (Only.refl _ _).set 0 _
        have hyy := HY.out
        exact ⟨heap_set_self h5 0 _, ⟨(ho.block b h4.lt.1 (by omega)).trans h4.1, (ho.block g h4.lt.2 (by omega)).trans h4.2.1, h4.2.2⟩, h2.only ho h12, (ho.block X (lt_heap h3) (by omega)).trans h3, h6.trans (ho.below hyy.2.2.2.2 h6.size), h11, h12, h9, h8⟩)
      clear H8
      go_upto_region 9 with fail
      clear n0 y0 yf
      generalize w8.setCell ⟨Y, 0, none⟩ (.slice (some ⟨p2, 0, none⟩) n c2) = w9 at *
      have k0 := cell_atF H9.out.2.2.2.1 0 (v := .int .i64 W) rfl
      have k1 := cell_atF H9.out.2.2.2.1 1 (v := .int .i64 A) rfl
      have k2 := cell_atF H9.out.2.2.2.1 2 (v := .int .i64 Ln) rfl
      have k3 := cell_atF H9.out.2.2.2.1 3 (v := .string D) rfl
      have k4 := cell_atF H9.out.2.2.2.1 4 (v := .bool S) rfl
      have cf := HC.out.2.1 b g (j : Int) w9 H9.out.2.1
      go_wp2_with fail
      refine Calls.mono cf ?_
      rintro e w10 ⟨rfl, hf10, ho10⟩
      have r11 := heap_alloc_self w10 (.cells #[.int .i64 (j : Int), .int .i64 E, .string OUT] 91)
      have b11 : Below w10.heap.size w10 (w10.alloc (.cells #[.int .i64 (j : Int), .int .i64 E, .string OUT] 91)) := (Below.refl _ _).alloc (Nat.le_refl _) _
      have HL := Lib.hid (show LRel b g Y n w (w10.alloc (.cells #[.int .i64 (j : Int), .int .i64 E, .string OUT] 91)) from by
        obtain ⟨h1, h2, h3, h4, h5, h6, h7, h8, h9⟩ := H9.out
        have y10 := (ho10.block Y (lt_heap h1) (by have := HY.out; omega)).trans h1
        exact ⟨⟨L', p2, c2, HC.out.2.2.1, HC.out.2.2.2.1, hf10.below b11 hf10.lt.1 hf10.lt.2, (h3.only ho10 h6).below b11, below_at b11 (lt_heap y10) y10, h6, h7⟩,
          (h5.trans (ho10.below (by have := HY.out; omega) h5.size)).trans (b11.mono (Nat.le_trans h5.size ho10.size))⟩)
      have HO := Lib.hid HC.out.2.2.2.2
      clear k0 k1 k2 k3 k4 cf hf10 ho10 b11 H9 HC
      go_upto_region 10 with fail
      generalize w10.alloc (.cells #[.int .i64 (j : Int), .int .i64 E, .string OUT] 91) = w11 at *
      obtain ⟨R, hR⟩ : ∃ R, w10.heap.size = R := ⟨_, rfl⟩
      rw [hR] at r11
      try rw [hR]
      clear hR
      have k0 := cell_atF r11 0 (v := .int .i64 (j : Int)) rfl
      have k1 := cell_atF r11 1 (v := .int .i64 E) rfl
      have k2 := cell_atF r11 2 (v := .string OUT) rfl
      clear r11
      rcases HO.out.1 with ⟨rfl, rfl⟩ | ⟨rfl, rfl⟩
      all_goals
        go_wp2_with fail
        go_roundw
        case rel => exact ⟨j + 1, hi1, by omega, by simp, HL⟩
        case measure => exact meas_40 hi2
    · have hout : ¬ ((j : Int) < (len : Int)) ∨ ((j : Int) < (len : Int) ∧ ¬ ((j : Int) < 40)) := by omega
      obtain ⟨L, p', c', hBl, hLn, hfl, hv, hy, -, -⟩ := HR.out.ex
      obtain ⟨T, hT⟩ : ∃ T : ByteArray, (⟨(flatL L).toArray⟩ : ByteArray) = T := ⟨_, rfl⟩
      have H := Lib.hid (And.intro hBl (And.intro hLn (And.intro hfl (And.intro hv (And.intro HR.out.below hT)))))
      have y0 := cell_atF hy 0 (v := .slice (some ⟨p', 0, none⟩) n c') rfl
      clear hBl hLn hfl hv hy hT HR hin hj1 hj2 HE
      rcases hout with ho | ⟨ho, ho2⟩
      all_goals
        go_wp2_with fail
        go_loopw [16, 17] (fun o i wz => ∃ z : Nat, z ≤ n ∧ o = .string ⟨(flatL (L.take z)).toArray⟩ ∧ i = .int .i64 (z : Int) ∧ Hid (wz = wr)) (fun _ i _ => n - (intOf i).toNat)
        case atStart => exact ⟨0, Nat.zero_le _, rfl, rfl, Lib.hid rfl⟩
        case round =>
          obtain ⟨z, hz, rfl, rfl, hw⟩ := hrel
          obtain rfl := hw.out
          clear hw
          by_cases hzn : z < n
          · have hzn' : (z : Int) < (n : Int) := by omega
            have hzl : z < L.length := by rw [H.out.2.1]; exact hzn
            have cz := H.out.2.2.2.1.at_ hzl
            have hs32 : L[z].size ≤ 32 := Nat.le_of_eq (H.out.1 _ (List.getElem_mem hzl))
            have hob : (⟨(flatL (L.take z)).toArray⟩ : ByteArray).size ≤ 100000 := by
              show (flatL (L.take z)).toArray.size ≤ 100000
              rw [List.size_toArray, flatL_len (H.out.1.take z), List.length_take]
              omega
            have hnx : (⟨(flatL (L.take z)).toArray⟩ : ByteArray) ++ L[z] = ⟨(flatL (L.take (z + 1))).toArray⟩ := by
              have e : L[z] = ⟨L[z].data.toList.toArray⟩ := str_ext (by simp)
              rw [List.take_succ_eq_append_getElem hzl, flatL_append, ← str_append]
              congr 1
              rw [e]; simp [flatL]
            obtain ⟨SZ, hSZ⟩ : ∃ s, L[z] = s := ⟨_, rfl⟩
            obtain ⟨OU, hOU⟩ : ∃ s : ByteArray, (⟨(flatL (L.take z)).toArray⟩ : ByteArray) = s := ⟨_, rfl⟩
            rw [hSZ] at cz hs32 hnx
            rw [hOU] at hob hnx
            rw [hOU]
            have HN := Lib.hid (And.intro hnx (And.intro hz hzn))
            clear hnx hSZ hOU hz hzn hzl
            go_wp2_with fail
            go_roundw
            case rel => exact ⟨z + 1, HN.out.2.2, by rw [HN.out.1], by simp, Lib.hid (by trivial)⟩
            case measure => exact meas_k HN.out.2.2
          · obtain rfl : z = n := by omega
            have hTT : (⟨(flatL (L.take z)).toArray⟩ : ByteArray) = T := by rw [List.take_of_length_le (by rw [H.out.2.1]; exact Nat.le_refl _)]; exact H.out.2.2.2.2.2
            rw [hTT]
            clear hTT hzn hz y0
            go_wp2_with fail
            refine Calls.mono (awake35 _) ?_
            rintro e wa ⟨rfl, hba⟩
            have cb := fbytes b g L wa H.out.1 (H.out.2.2.1.below hba H.out.2.2.1.lt.1 H.out.2.2.1.lt.2)
            rw [H.out.2.2.2.2.2] at cb
            have HB := Lib.hid (H.out.2.2.2.2.1.trans (hba.mono H.out.2.2.2.2.1.size))
            clear hba H
            go_wp2_with fail
            refine Calls.mono cb ?_
            rintro e wb ⟨rfl, rfl⟩
            clear cb
            go_wp2_with fail
            refine Calls.mono (fnew_no 0 _ (by omega)) ?_
            rintro e wc ⟨bx, rfl, hno, hbc⟩
            go_wp2_with fail
            refine Calls.mono (fbytes_no _ _ hno) ?_
            rintro e wd ⟨rfl, rfl⟩
            clear hno
            go_wp2_with fail
            refine Calls.mono (fnew_no 65 _ (by omega)) ?_
            rintro e we ⟨bw, rfl, hno, hbe⟩
            go_wp2_with fail
            refine Calls.mono (fbytes_no _ _ hno) ?_
            rintro e wh ⟨rfl, rfl⟩
            clear hno
            have HF := Lib.hid ((HB.out.trans (hbc.mono HB.out.size)).trans (hbe.mono (Nat.le_trans HB.out.size hbc.size)))
            clear hbc hbe HB
            go_wp2_with fail
            go_ret
            exact ⟨by simp, HF.out⟩
end Go.Proofs.Ytjaaddjbmimjoaa
