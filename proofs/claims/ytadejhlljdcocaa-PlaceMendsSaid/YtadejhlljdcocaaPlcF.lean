/-
  place.fill; tarnlaw41's many, good, stays.
-/
import Derived.Test.YtadejhlljdcocaaPlcE
namespace Go.Proofs.Ytadejhlljdcocaa
open Go.RowKit
set_option linter.unusedVariables false
set_option linter.unusedSimpArgs false

theorem f1_len (up : List Int) (mn : Nat) (l : List Int) (x : Int) : (f1 up mn l x).length ≤ l.length + 1 := by unfold f1; split <;> simp
theorem f2_len (mn : Nat) (l : List Int) (x : Int) : (f2 mn l x).length ≤ l.length + 1 := by unfold f2; split <;> simp
theorem fold_len {f : List Int → Int → List Int} (hf : ∀ l x, (f l x).length ≤ l.length + 1) : ∀ (p l : List Int), (p.foldl f l).length ≤ l.length + p.length
  | [], l => by simp
  | x :: p, l => by
    have := fold_len hf p (f l x)
    have h := hf l x
    simp only [List.foldl_cons, List.length_cons]
    omega
theorem fold_next {f : List Int → Int → List Int} (p l : List Int) (i : Nat) (hi : i < p.length) : (p.take (i + 1)).foldl f l = f ((p.take i).foldl f l) (p.getD i 0) := by
  rw [List.take_succ_eq_append_getElem hi, List.foldl_append]
  simp [List.getD, hi]
theorem int_litP (n : Int) (w : World) : SR (w.alloc (.cells #[.int .i64 n] 3)) (.slice (some ⟨w.heap.size, 0, none⟩) 1 1) 1 1 (nCells [n]) := SR.lit w 3 #[.int .i64 n] 1 1 (by decide) rfl
def FillPost (R : List Int) (w : World) (e : Ending) (w' : World) : Prop := ∃ v, e = .returned v ∧ SR w' v 1 R.length (nCells R) ∧ Below w.heap.size w w'
set_option maxHeartbeats 6400000 in
set_option maxRecDepth 100000 in
theorem pfill (L up : List Int) (least : Int) (mn : Nat) (hmn : min (max (L.length : Int) least) 3 = mn) (hL : L.length ≤ 100) (hU : up.length ≤ 100) (w : World) (v u : Value) (hv : SR w v 1 L.length (nCells L)) (hu : SR w u 1 up.length (nCells up)) :
    Calls Try.prog 110 #[v, u, .int .i64 least] w (FillPost (fillL L up mn) w) := by
  obtain ⟨i0, hi, hz0, hz1, hz2⟩ := info_parts pinfo
  have cw := fun w => pwithin (L.length : Int) least w
  rw [hmn] at cw
  obtain ⟨av, pv, rfl, hp1, hp2⟩ := hv.form
  obtain ⟨au, pu, rfl, hp3, hp4⟩ := hu.form
  unfold maxLen at hp2 hp4
  have hm3 : mn ≤ 3 := by omega
  have HV := Lib.hid hv
  have HU := Lib.hid hu
  clear hv hu hmn
  go_enter Try.func110, Try.ntmps110
  go_wp2_with fail
  refine Calls.mono (cw _) ?_
  rintro e w1 ⟨rfl, rfl⟩
  clear cw
  go_wp2_with fail
  go_loopw [7, 19] (fun l i wr => ∃ j : Nat, j ≤ L.length ∧ i = .int .i64 j ∧ Hid (wr.ownsRow w.heap.size 3 1 l ((L.take j).foldl (f1 up mn) []).length (nCells ((L.take j).foldl (f1 up mn) [])) ∧ Below w.heap.size w wr)) (fun _ i _ => L.length - (intOf i).toNat)
  case atStart => exact ⟨0, Nat.zero_le _, rfl, Lib.hid ⟨World.ownsRow_nil _ _ _ _, Below.refl _ _⟩⟩
  case round =>
    obtain ⟨j, hj, rfl, HR⟩ := hrel
    obtain ⟨al, pl, rfl⟩ := owns_slice HR.out.1
    have hal := fold_len (f1_len up mn) (L.take j) []
    rw [List.length_take, List.length_nil] at hal
    by_cases hlt : j < L.length
    · have hnx := fold_next (f := f1 up mn) L [] j hlt
      obtain ⟨b, off, rfl, hbl, hcell⟩ := SR.int (HV.out.below HR.out.2) (by omega)
      have c0 := hcell j hlt
      obtain ⟨x, hx⟩ : ∃ x, L.getD j 0 = x := ⟨_, rfl⟩
      rw [hx] at c0 hnx
      obtain ⟨ac, hac⟩ : ∃ ac, (L.take j).foldl (f1 up mn) [] = ac := ⟨_, rfl⟩
      rw [hac] at hnx hal HR
      rw [hac]
      have cu := contains_any _ up x wr (HU.out.below HR.out.2)
      have ca := contains_any _ ac x wr (SR.owns HR.out.1)
      have hws := HR.out.2.size
      have HNX := Lib.hid hnx
      clear hcell hx hac hnx
      obtain ⟨p, hp⟩ : ∃ p, decide (x ∈ up) = p := ⟨_, rfl⟩
      obtain ⟨q, hq⟩ : ∃ q, decide (x ∈ ac) = q := ⟨_, rfl⟩
      rw [hp] at cu
      rw [hq] at ca
      obtain ⟨nn, hnn⟩ : ∃ nn, ac.length = nn := ⟨_, rfl⟩
      rw [hnn] at ca hal
      have hO := HR.out.1
      rw [hnn] at hO
      rw [hnn]
      have HO := Lib.hid hO
      have HPQ := Lib.hid (And.intro hp (And.intro hq hnn))
      clear hp hq hnn hO
      have hstay : (¬ nn < mn ∨ p = false ∨ q = true) → f1 up mn ac x = ac := fun h => by
        unfold f1
        rw [if_neg]
        rintro ⟨h1, h2, h3⟩
        rw [HPQ.out.2.2] at h1
        have e1 := HPQ.out.1
        have e2 := HPQ.out.2.1
        rw [decide_eq_true h2] at e1
        rw [decide_eq_false h3] at e2
        subst e1 e2
        simp at h
        omega
      have hgo : nn < mn → p = true → q = false → f1 up mn ac x = ac ++ [x] := fun h1 h2 h3 => by
        unfold f1
        subst h2 h3
        rw [if_pos ⟨by rw [HPQ.out.2.2]; exact h1, by simpa using HPQ.out.1, by simpa using HPQ.out.2.1⟩]
      have HST := Lib.hid hstay
      have HGO := Lib.hid hgo
      clear hstay hgo
      obtain ⟨W0, hW0⟩ : ∃ W0, W0 = wr := ⟨_, rfl⟩
      subst hW0
      by_cases hlm : nn < mn
      · cases p
        · have HE := Lib.hid (show W0.ownsRow w.heap.size 3 1 (.slice al nn pl) ((L.take (j + 1)).foldl (f1 up mn) []).length (nCells ((L.take (j + 1)).foldl (f1 up mn) [])) ∧ Below w.heap.size w W0 from by
            rw [HNX.out, HST.out (.inr (.inl (by first | rfl | trivial)))]; exact ⟨HPQ.out.2.2 ▸ HR.out.1, HR.out.2⟩)
          go_wp2_with fail
          refine Calls.mono cu ?_
          rintro e w2 ⟨rfl, rfl⟩
          go_wp2_with fail
          go_roundw
          case rel => exact ⟨j + 1, by omega, by go_num, HE⟩
          case measure => simp [intOf]; omega
        · cases q
          · go_wp2_with fail
            refine Calls.mono cu ?_
            rintro e w2 ⟨rfl, rfl⟩
            go_wp2_with fail
            refine Calls.mono ca ?_
            rintro e w2 ⟨rfl, rfl⟩
            go_wp2_with (at_builtin; refine wp_app Try.underlying29 hi hz0 hz1 hz2 rfl (by decide) rfl (.tmp 38) (.tmp 40) rfl w.heap.size _ nn (nCells ac) rfl (HO.out.alloc _) _ 1 (nCells [x]) rfl (int_litP x _) ?c1 ?c2 ?c3 ?c4 ?_)
            case c1 => exact nCells_one _
            case c2 => unfold maxLen; omega
            case c3 => omega
            case c4 => first | omega | (simp; omega)
            intro v' w9 hown hgr
            have HE := Lib.hid (show w9.ownsRow w.heap.size 3 1 v' ((L.take (j + 1)).foldl (f1 up mn) []).length (nCells ((L.take (j + 1)).foldl (f1 up mn) [])) ∧ Below w.heap.size w w9 from ⟨by
              rw [HNX.out, HGO.out hlm (by first | rfl | trivial) (by first | rfl | trivial), List.length_append, HPQ.out.2.2, ← nCells_append]; exact hown, below_app (HR.out.2.alloc hws _) hgr (HO.out.alloc _) (Nat.le_refl _) (by simp; omega)⟩)
            clear hown hgr
            go_wp2_with fail
            go_roundw
            case rel => exact ⟨j + 1, by omega, by go_num, HE⟩
            case measure => simp [intOf]; omega
          · have HE := Lib.hid (show W0.ownsRow w.heap.size 3 1 (.slice al nn pl) ((L.take (j + 1)).foldl (f1 up mn) []).length (nCells ((L.take (j + 1)).foldl (f1 up mn) [])) ∧ Below w.heap.size w W0 from by
              rw [HNX.out, HST.out (.inr (.inr (by first | rfl | trivial)))]; exact ⟨HPQ.out.2.2 ▸ HR.out.1, HR.out.2⟩)
            go_wp2_with fail
            refine Calls.mono cu ?_
            rintro e w2 ⟨rfl, rfl⟩
            go_wp2_with fail
            refine Calls.mono ca ?_
            rintro e w2 ⟨rfl, rfl⟩
            go_wp2_with fail
            go_roundw
            case rel => exact ⟨j + 1, by omega, by go_num, HE⟩
            case measure => simp [intOf]; omega
      · have HE := Lib.hid (show W0.ownsRow w.heap.size 3 1 (.slice al nn pl) ((L.take (j + 1)).foldl (f1 up mn) []).length (nCells ((L.take (j + 1)).foldl (f1 up mn) [])) ∧ Below w.heap.size w W0 from by
          rw [HNX.out, HST.out (.inl hlm)]; exact ⟨HPQ.out.2.2 ▸ HR.out.1, HR.out.2⟩)
        go_wp2_with fail
        go_roundw
        case rel => exact ⟨j + 1, by omega, by go_num, HE⟩
        case measure => simp [intOf]; omega
    · obtain rfl : j = L.length := by omega
      rw [List.take_length] at HR hal
      rw [List.take_length]
      obtain ⟨l1, hl1⟩ : ∃ l1, L.foldl (f1 up mn) [] = l1 := ⟨_, rfl⟩
      have hfin : fillL L up mn = up.foldl (f2 mn) l1 := by unfold fillL; rw [hl1]
      rw [hl1] at HR hal
      rw [hl1]
      have HFIN := Lib.hid hfin
      have hl1n : l1.length ≤ 100 := by omega
      have HR0 := Lib.hid (show wr.ownsRow w.heap.size 3 1 (.slice al l1.length pl) ((up.take 0).foldl (f2 mn) l1).length (nCells ((up.take 0).foldl (f2 mn) l1)) ∧ Below w.heap.size w wr from HR.out)
      clear hfin hl1 hal HV HR
      go_wp2_with fail
      go_loopw [7, 45] (fun l i wx => ∃ j : Nat, j ≤ up.length ∧ i = .int .i64 j ∧ Hid (wx.ownsRow w.heap.size 3 1 l ((up.take j).foldl (f2 mn) l1).length (nCells ((up.take j).foldl (f2 mn) l1)) ∧ Below w.heap.size w wx)) (fun _ i _ => up.length - (intOf i).toNat)
      case atStart => exact ⟨0, Nat.zero_le _, rfl, HR0⟩
      case round =>
        clear HR0
        obtain ⟨j, hj, rfl, HR⟩ := hrel
        obtain ⟨al, pl, rfl⟩ := owns_slice HR.out.1
        have hal := fold_len (f2_len mn) (up.take j) l1
        rw [List.length_take] at hal
        by_cases hlt : j < up.length
        · have hnx := fold_next (f := f2 mn) up l1 j hlt
          obtain ⟨b, off, rfl, hbl, hcell⟩ := SR.int (HU.out.below HR.out.2) (by omega)
          have c0 := hcell j hlt
          obtain ⟨x, hx⟩ : ∃ x, up.getD j 0 = x := ⟨_, rfl⟩
          rw [hx] at c0 hnx
          obtain ⟨ac, hac⟩ : ∃ ac, (up.take j).foldl (f2 mn) l1 = ac := ⟨_, rfl⟩
          rw [hac] at hnx hal HR
          rw [hac]
          have ca := contains_any _ ac x _ (SR.owns HR.out.1)
          have hws := HR.out.2.size
          have HNX := Lib.hid hnx
          clear hcell hx hac hnx
          obtain ⟨q, hq⟩ : ∃ q, decide (x ∈ ac) = q := ⟨_, rfl⟩
          rw [hq] at ca
          obtain ⟨nn, hnn⟩ : ∃ nn, ac.length = nn := ⟨_, rfl⟩
          rw [hnn] at ca hal
          have hO := HR.out.1
          rw [hnn] at hO
          rw [hnn]
          have HO := Lib.hid hO
          have HPQ := Lib.hid (And.intro hq hnn)
          clear hq hnn hO
          have hstay : (¬ nn < mn ∨ q = true) → f2 mn ac x = ac := fun h => by
            unfold f2
            rw [if_neg]
            rintro ⟨h1, h3⟩
            rw [HPQ.out.2] at h1
            have e2 := HPQ.out.1
            rw [decide_eq_false h3] at e2
            subst e2
            simp at h
            omega
          have hgo : nn < mn → q = false → f2 mn ac x = ac ++ [x] := fun h1 h3 => by
            unfold f2
            subst h3
            rw [if_pos ⟨by rw [HPQ.out.2]; exact h1, by simpa using HPQ.out.1⟩]
          have HST := Lib.hid hstay
          have HGO := Lib.hid hgo
          clear hstay hgo
          obtain ⟨W0, hW0⟩ : ∃ W0, W0 = wr := ⟨_, rfl⟩
          subst hW0
          by_cases hlm : nn < mn
          · cases q
            · go_wp2_with fail
              refine Calls.mono ca ?_
              rintro e w2 ⟨rfl, rfl⟩
              go_wp2_with (at_builtin; refine wp_app Try.underlying29 hi hz0 hz1 hz2 rfl (by decide) rfl (.tmp 59) (.tmp 61) rfl w.heap.size _ nn (nCells ac) rfl (HO.out.alloc _) _ 1 (nCells [x]) rfl (int_litP x _) ?d1 ?d2 ?d3 ?d4 ?_)
              case d1 => exact nCells_one _
              case d2 => unfold maxLen; omega
              case d3 => omega
              case d4 => first | omega | (simp; omega)
              intro v' w9 hown hgr
              have HE := Lib.hid (show w9.ownsRow w.heap.size 3 1 v' ((up.take (j + 1)).foldl (f2 mn) l1).length (nCells ((up.take (j + 1)).foldl (f2 mn) l1)) ∧ Below w.heap.size w w9 from ⟨by
                rw [HNX.out, HGO.out hlm (by first | rfl | trivial), List.length_append, HPQ.out.2, ← nCells_append]; exact hown, below_app (HR.out.2.alloc hws _) hgr (HO.out.alloc _) (Nat.le_refl _) (by simp; omega)⟩)
              clear hown hgr
              go_wp2_with fail
              go_roundw
              case rel => exact ⟨j + 1, by omega, by go_num, HE⟩
              case measure => simp [intOf]; omega
            · have HE := Lib.hid (show W0.ownsRow w.heap.size 3 1 (.slice al nn pl) ((up.take (j + 1)).foldl (f2 mn) l1).length (nCells ((up.take (j + 1)).foldl (f2 mn) l1)) ∧ Below w.heap.size w W0 from by
                rw [HNX.out, HST.out (.inr (by first | rfl | trivial))]; exact ⟨HPQ.out.2 ▸ HR.out.1, HR.out.2⟩)
              go_wp2_with fail
              refine Calls.mono ca ?_
              rintro e w2 ⟨rfl, rfl⟩
              go_wp2_with fail
              go_roundw
              case rel => exact ⟨j + 1, by omega, by go_num, HE⟩
              case measure => simp [intOf]; omega
          · have HE := Lib.hid (show W0.ownsRow w.heap.size 3 1 (.slice al nn pl) ((up.take (j + 1)).foldl (f2 mn) l1).length (nCells ((up.take (j + 1)).foldl (f2 mn) l1)) ∧ Below w.heap.size w W0 from by
              rw [HNX.out, HST.out (.inl hlm)]; exact ⟨HPQ.out.2 ▸ HR.out.1, HR.out.2⟩)
            go_wp2_with fail
            go_roundw
            case rel => exact ⟨j + 1, by omega, by go_num, HE⟩
            case measure => simp [intOf]; omega
        · obtain rfl : j = up.length := by omega
          rw [List.take_length] at HR
          rw [List.take_length]
          go_wp2_with fail
          go_ret
          refine ⟨_, rfl, ?_, HR.out.2⟩
          rw [HFIN.out]
          exact SR.owns HR.out.1
end Go.Proofs.Ytadejhlljdcocaa
