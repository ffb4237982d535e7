/-
  tarnref09.Merge.
-/
import Derived.Test.YtoonlhjldkkanaaOf
namespace Go.Proofs.Ytoonlhjldkkanaa
open Go.RowKit
set_option linter.unusedVariables false
set_option linter.unusedSimpArgs false
set_option maxHeartbeats 400000 in
set_option maxRecDepth 100000 in
/-- tarnref09.Merge -/
theorem rmerge (l m : List HI) (hol : ∀ x ∈ l, Ok x) (hom : ∀ x ∈ m, Ok x) (w : World) (u v : Value) (hu : SR w u 3 l.length (hCells l)) (hv : SR w v 3 m.length (hCells m)) (hn : l.length + m.length ≤ 1000000) :
    Calls Try.prog 37 #[u, v] w fun e w' => ∃ v', e = .returned v' ∧ SR w' v' 3 (putAll [] (l ++ m)).length (hCells (putAll [] (l ++ m))) ∧ (∀ b, v'.ownBlock = some b → w.heap.size ≤ b ∧ b < w'.heap.size) ∧ Below w.heap.size w w' := by
  obtain ⟨i0, hi, hz0, hz1, hz2⟩ := info_parts info_held
  obtain ⟨a', cap', rfl, hlc', hcm'⟩ := hu.form
  obtain ⟨a, cap, rfl, hlc, hcm⟩ := hv.form
  unfold maxLen at hcm hcm'
  have HU := Lib.hid hu
  have HV := Lib.hid hv
  have HOL := Lib.hid hol
  have HOM := Lib.hid hom
  have hw1 := Below.alloc (Below.refl w.heap.size w) (Nat.le_refl _) (.cells #[] 58)
  have hw0 : (w.alloc (.cells #[] 58)).ownsRow w.heap.size 58 3 (.slice (some ⟨w.heap.size, 0, none⟩) 0 0) 0 [] := World.ownsRow_lit (base := w.heap.size) w #[] 0 (Nat.le_refl _) (by decide) rfl
  have HW0 := Lib.hid hw0
  have HW1 := Lib.hid hw1
  clear hv hol hom hu hw1 hw0
  go_enter Try.func37, Try.ntmps37
  go_wp2_with (at_builtin; refine wp_app Try.underlying38 hi hz0 hz1 hz2 rfl (by decide) rfl (.tmp 5) (.tmp 6) rfl w.heap.size _ 0 [] rfl HW0.out _ l.length (hCells l) rfl (HU.out.below HW1.out) ?c1 ?c2 ?c3 ?c4 ?_)
  case c1 => exact hCells_one l
  case c2 => unfold maxLen; omega
  case c3 => omega
  case c4 => exact HW1.out.size
  intro v' w2 hown hgr
  have HO2 := Lib.hid hown
  have HB2 := Lib.hid (below_app HW1.out hgr HW0.out (Nat.le_refl _) HW1.out.size)
  clear hown hgr
  go_wp2_with (at_builtin; refine wp_app Try.underlying38 hi hz0 hz1 hz2 rfl (by decide) rfl (.tmp 7) (.tmp 8) rfl w.heap.size _ _ _ rfl HO2.out _ m.length (hCells m) rfl (HV.out.below HB2.out) ?c1 ?c2 ?c3 ?c4 ?_)
  case c1 => exact hCells_one m
  case c2 => unfold maxLen; omega
  case c3 => omega
  case c4 => exact HB2.out.size
  intro v3 w3 hown hgr
  have hb3 := below_app HB2.out hgr HO2.out (Nat.le_refl _) HB2.out.size
  have HB3 := Lib.hid hb3
  have hlm : (l ++ m).length = l.length + m.length := List.length_append
  rw [← hCells_append, ← hlm] at hown
  obtain ⟨K, hK⟩ : ∃ K, (l ++ m).length = K := ⟨_, rfl⟩
  have hsr := SR.owns hown
  rw [hK] at hsr
  obtain ⟨a3, c3, rfl, -, -⟩ := hsr.form
  have cr := rof (l ++ m) (fun x hx => by rcases List.mem_append.1 hx with h | h; exact HOL.out x h; exact HOM.out x h) w3 _ (by rw [hK]; exact hsr)
  clear hown hgr hb3 hlm hK hsr
  go_wp2_with fail
  refine Calls.mono cr ?_
  rintro e w4 ⟨v4, rfl, hm4, hn4, hb4⟩
  have HM4 := Lib.hid hm4
  have HN4 := Lib.hid hn4
  have HB4 := Lib.hid (HB3.out.trans (hb4.mono HB3.out.size))
  clear hm4 hn4 hb4 cr
  go_wp2_with fail
  go_ret
  exact ⟨_, rfl, HM4.out, fun b e => ⟨Nat.le_trans HB3.out.size (HN4.out b e).1, (HN4.out b e).2⟩, HB4.out⟩
end Go.Proofs.Ytoonlhjldkkanaa
