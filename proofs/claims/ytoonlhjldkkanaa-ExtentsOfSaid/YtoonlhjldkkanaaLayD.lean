/-
  tarnref09: Lay, whatever comes; Drop.
-/
import Derived.Test.YtoonlhjldkkanaaLayC
namespace Go.Proofs.Ytoonlhjldkkanaa
open Go.RowKit
set_option linter.unusedVariables false
set_option linter.unusedSimpArgs false

theorem rlay (l : List HI) (x : HI) (m : Bool) (w : World) (v : Value) (hs : Srt l) (hv : SR w v 3 l.length (hCells l)) (hw : (Lit.int .u64 x.v).wf = true) (hd : x.d.size ≤ 40) (hm : MayT m x.v x.d) :
    Calls Try.prog 27 #[v, .int .i64 x.b, .agg (itemA x.v x.d)] w (RLay w v m l x) := by
  by_cases hin : 0 ≤ x.b ∧ x.b < 64
  · obtain ⟨h0, h1⟩ := hin
    cases m
    · exact rlay_bad l x w v hv (by omega) (by omega) hm
    · cases hls : laysL l x
      · obtain ⟨_, y, hy, hn⟩ := lay_not hs hls
        exact rlay_old l x y w v hs hv (by omega) (by omega) hm hy hn
      · exact rlay_new l x w v hs hv ⟨h0, h1, hw, hd⟩ hm hls
  · exact rlay_out l x m w v hv (by omega)
def dropQ (b ver : Int) (h : HI) : Bool := h.b == b && decide (h.v ≤ ver)
theorem drop_snoc (l : List HI) (x : HI) (b ver : Int) : dropL (l ++ [x]) b ver = dropL l b ver ++ (if dropQ b ver x = true then [] else [x]) := by
  unfold dropL dropQ
  rw [List.filter_append]
  congr 1
  cases h : (x.b == b && decide (x.v ≤ ver)) <;> simp only [List.filter_cons, List.filter_nil, h] <;> rfl
theorem drops_any {l : List HI} (hs : Srt l) (b ver : Int) : l.any (dropQ b ver) = dropsL l b ver := by
  cases split_of l b hs.pw with
  | no A B e hA hB =>
    subst e
    rw [dropsL_no hA hB, List.any_eq_false]
    intro y hy
    have : y.b ≠ b := by
      rcases List.mem_append.1 hy with h | h
      · have := hA y h; omega
      · have := hB y h; omega
    simp [dropQ, this]
  | yes A y B e hy hA hB =>
    subst e
    rw [dropsL_yes hA hy, Bool.eq_iff_iff, List.any_eq_true]
    constructor
    · rintro ⟨z, hz, hq⟩
      simp only [dropQ, Bool.and_eq_true, beq_iff_eq, decide_eq_true_eq] at hq
      rcases List.mem_append.1 hz with h | h
      · have := hA z h; omega
      · rcases List.mem_cons.1 h with rfl | h
        · exact decide_eq_true hq.2
        · have := hB z h; omega
    · intro h
      exact ⟨y, by simp, by simp [dropQ, hy, of_decide_eq_true h]⟩
theorem drop_len (l : List HI) (b v : Int) : (dropL l b v).length ≤ l.length := List.length_filter_le _ _
set_option maxHeartbeats 1600000 in
set_option maxRecDepth 100000 in
theorem rdrop (l : List HI) (b ver : Int) (w : World) (v : Value) (hs : Srt l) (hv : SR w v 3 l.length (hCells l)) :
    Calls Try.prog 25 #[v, .int .i64 b, .int .u64 ver] w fun e w' => ∃ v', e = .returned (.tuple #[v', .bool (dropsL l b ver)]) ∧ w'.ownsRow w.heap.size 58 3 v' (dropL l b ver).length (hCells (dropL l b ver)) ∧ Below w.heap.size w w' := by
  obtain ⟨i0, hi, hz0, hz1, hz2⟩ := info_parts info_held
  obtain ⟨a, cap, rfl, hlc, hcm⟩ := hv.form
  unfold maxLen at hcm
  have hl64 := hs.len
  have HS := Lib.hid (drops_any hs b ver)
  have HV := Lib.hid hv
  clear hs hv
  go_enter Try.func25, Try.ntmps25
  go_wp2_with fail
  go_loopw [8, 9, 10] (fun o was i wr => ∃ j : Nat, j ≤ l.length ∧ i = .int .i64 j ∧ was = .bool ((l.take j).any (dropQ b ver)) ∧ Hid (wr.ownsRow w.heap.size 58 3 o (dropL (l.take j) b ver).length (hCells (dropL (l.take j) b ver)) ∧ Below w.heap.size w wr)) (fun _ _ i _ => l.length - (intOf i).toNat)
  case atStart => exact ⟨0, Nat.zero_le _, rfl, by simp, Lib.hid ⟨World.ownsRow_lit (base := w.heap.size) w #[] 0 (Nat.le_refl _) (by decide) rfl, by go_grown⟩⟩
  case round =>
    obtain ⟨j, hj, rfl, rfl, HL⟩ := hrel
    have hwr := HL.out.2.size
    have hol : (dropL (l.take j) b ver).length ≤ j := Nat.le_trans (drop_len _ _ _) (by rw [List.length_take]; omega)
    by_cases hlt : j < l.length
    · obtain ⟨h, hh⟩ : ∃ h, l[j]? = some h := ⟨_, List.getElem?_eq_getElem hlt⟩
      have HH := Lib.hid hh
      obtain ⟨g, off, hga, hgl, c0, c1, c2⟩ := sr_held (HV.out.below HL.out.2) j h hh
      subst hga
      clear hh
      by_cases hbe : h.b = b
      · subst hbe
        have hbe : h.b = h.b := rfl
        have hb4 : (h.b == h.b) = true := by simp
        clear hbe
        by_cases hvv : h.v ≤ ver
        · have hq : dropQ h.b ver h = true := by simp [dropQ, hvv]
          go_wp2_with fail
          go_roundw
          case rel => exact ⟨j + 1, by omega, by go_num, by rw [take_next HH.out]; simp [hq], Lib.hid (by rw [take_next HH.out, drop_snoc, if_pos hq, List.append_nil]; exact HL.out)⟩
          case measure => simp [intOf]; omega
        · have hq : dropQ h.b ver h = false := by simp [dropQ, hvv]
          go_wp2_with (at_builtin; refine wp_app Try.underlying38 hi hz0 hz1 hz2 rfl (by decide) rfl (.tmp 35) (.tmp 40) rfl w.heap.size _ _ _ rfl (HL.out.1.alloc _) _ 1 (hCells [h]) rfl (good_lit h _) ?c1 ?c2 ?c3 ?c4 ?_)
          case c1 => exact hCells_one _
          case c2 => unfold maxLen; omega
          case c3 => omega
          case c4 => first | omega | (simp; omega)
          intro v' w2 hown hgr
          have HO := Lib.hid (owns_app hown)
          have HG := Lib.hid hgr
          clear hown hgr
          go_wp2_with fail
          go_roundw
          case rel => exact ⟨j + 1, by omega, by go_num, by rw [take_next HH.out]; simp [hq], Lib.hid (by rw [take_next HH.out, drop_snoc, if_neg (by rw [hq]; decide)]; exact ⟨HO.out, lapp_below HL.out.2 hwr HL.out.1 HG.out⟩)⟩
          case measure => simp [intOf]; omega
      · have hb4 : (h.b == b) = false := by simpa using hbe
        have hq : dropQ b ver h = false := by simp [dropQ, hb4]
        go_wp2_with (at_builtin; refine wp_app Try.underlying38 hi hz0 hz1 hz2 rfl (by decide) rfl (.tmp 35) (.tmp 40) rfl w.heap.size _ _ _ rfl (HL.out.1.alloc _) _ 1 (hCells [h]) rfl (good_lit h _) ?c1 ?c2 ?c3 ?c4 ?_)
        case c1 => exact hCells_one _
        case c2 => unfold maxLen; omega
        case c3 => omega
        case c4 => first | omega | (simp; omega)
        intro v' w2 hown hgr
        have HO := Lib.hid (owns_app hown)
        have HG := Lib.hid hgr
        clear hown hgr
        go_wp2_with fail
        go_roundw
        case rel => exact ⟨j + 1, by omega, by go_num, by rw [take_next HH.out]; simp [hq], Lib.hid (by rw [take_next HH.out, drop_snoc, if_neg (by rw [hq]; decide)]; exact ⟨HO.out, lapp_below HL.out.2 hwr HL.out.1 HG.out⟩)⟩
        case measure => simp [intOf]; omega
    · obtain rfl : j = l.length := by omega
      have hq : (l.take l.length).any (dropQ b ver) = dropsL l b ver := by rw [List.take_length]; exact HS.out
      have HQ := HL.out
      rw [List.take_length] at HQ
      have HQ' := Lib.hid HQ
      clear HQ
      rw [hq]
      go_wp2_with fail
      go_returns
      exact ⟨_, rfl, HQ'.out.1, HQ'.out.2⟩
end Go.Proofs.Ytoonlhjldkkanaa
