/-
  OrderPlays' own: a list without a number, and all numbers of an order.
-/
import Derived.Test.YtlabjemjhokcaaaOrdC
namespace Go.Proofs.Ytlabjemjhokcaaa
open Go.RowKit
set_option linter.unusedVariables false
set_option linter.unusedSimpArgs false

theorem oinfo : (Try.prog.info? 3).map (fun i => (i.zero, i.size, i.bytes)) = some (some (.int .i64 0), 1, 8) := by kernel_rfl
theorem SR.oform {w : World} {v : Value} {size n : Nat} {xs : List Value} (h : SR w v size n xs) : ∃ a cap, v = .slice a n cap ∧ n ≤ cap ∧ cap ≤ maxLen := by
  obtain ⟨a, cap, rfl, h1, h2, _⟩ := h
  exact ⟨a, cap, rfl, h1, h2⟩
theorem SR.oint {w : World} {a : Option Addr} {cap : Nat} {l : List Int} {n : Nat} (h : SR w (.slice a n cap) 1 n (nCells l)) (h0 : 0 < n) : ∃ b off, a = some ⟨b, off, none⟩ ∧ ∀ j, j < l.length → w.cell? ⟨b, off + j, none⟩ = some (.int .i64 (l.getD j 0)) := by
  obtain ⟨a', cap', he, h1, h2, h3, h4⟩ := h
  injection he with e1 _ e2
  subst e1 e2
  rcases h4 with h4 | ⟨b, off, rfl, hb, hc⟩
  · omega
  · refine ⟨b, off, rfl, fun j hj => hc j _ ?_⟩
    simp [nCells, List.getElem?_map, List.getD_eq_getElem?_getD, hj]
/-- a list without a number -/
def offL (n : Int) (l : List Int) : List Int := l.filter fun y => !(y == n)
theorem off_succ (n : Int) (l : List Int) (j : Nat) (hj : j < l.length) : offL n (l.take (j + 1)) = offL n (l.take j) ++ (if (l.getD j 0 == n) = true then [] else [l.getD j 0]) := by
  have h : l.take (j + 1) = l.take j ++ [l.getD j 0] := by
    rw [List.take_add_one, List.getD_eq_getElem?_getD, List.getElem?_eq_getElem hj]
    rfl
  rw [h, offL, offL, List.filter_append]
  congr 1
  cases h2 : (l.getD j 0 == n) <;> simp only [List.filter_cons, List.filter_nil, h2] <;> rfl
theorem off_le (n : Int) (l : List Int) (j : Nat) : (offL n (l.take j)).length ≤ j := Nat.le_trans (List.length_filter_le _ _) (List.length_take_le _ _)
def OffRel (n : Int) (l : List Int) (j : Nat) (v : Value) (w wr : World) : Prop := wr.ownsRow w.heap.size 3 1 v (offL n (l.take j)).length (nCells (offL n (l.take j))) ∧ Below w.heap.size w wr
theorem offrel_skip {n : Int} {l : List Int} {j : Nat} {v : Value} {w wr : World} (hj : j < l.length) (hr : OffRel n l j v w wr) (hx : (l.getD j 0 == n) = true) : OffRel n l (j + 1) v w wr := by
  unfold OffRel
  rw [off_succ n l j hj, if_pos hx, List.append_nil]
  exact hr
theorem offrel_step {n : Int} {l : List Int} {j : Nat} {v v' : Value} {w wr w' : World} {o : Obj} (hj : j < l.length) (hr : OffRel n l j v w wr) (hx : (l.getD j 0 == n) = false)
    (h : w'.ownsRow w.heap.size 3 1 v' ((offL n (l.take j)).length + 1) (nCells (offL n (l.take j)) ++ [.int .i64 (l.getD j 0)])) (hg : (wr.alloc o).grownBy w' v.ownBlock) : OffRel n l (j + 1) v' w w' := by
  have hb := hr.2.size
  refine ⟨?_, below_app (hr.2.alloc hb o) hg (hr.1.alloc o) (Nat.le_refl _) (by simp; omega)⟩
  rw [off_succ n l j hj, if_neg (by rw [hx]; decide), List.length_append, ← nCells_append]
  exact h

set_option maxHeartbeats 1600000 in
set_option maxRecDepth 100000 in
theorem owithout (l : List Int) (n : Int) (w : World) (v : Value) (hv : SR w v 1 l.length (nCells l)) (hl : l.length ≤ 1000000) :
    Calls Try.prog 32 #[v, .int .i64 n] w fun e w' => ∃ v', e = .returned v' ∧ w'.ownsRow w.heap.size 3 1 v' (offL n l).length (nCells (offL n l)) ∧ Below w.heap.size w w' := by
  obtain ⟨i0, hi, hz0, hz1, hz2⟩ := info_parts oinfo
  obtain ⟨a, cap, rfl, hlc, hcm⟩ := hv.oform
  unfold maxLen at hcm
  have HV := Lib.hid hv
  clear hv
  go_enter Try.func32, Try.ntmps32
  go_wp2_with fail
  go_loopw [5, 6] (fun v i wr => ∃ j : Nat, j ≤ l.length ∧ i = .int .i64 j ∧ OffRel n l j v w wr) (fun _ i _ => l.length - (intOf i).toNat)
  case atStart => exact ⟨0, Nat.zero_le _, rfl, World.ownsRow_lit (base := w.heap.size) w #[] 0 (Nat.le_refl _) (by decide) rfl, by go_grown⟩
  case round =>
    obtain ⟨j, hj, rfl, hrel⟩ := hrel
    have hjl := off_le n l j
    have hsz := hrel.2.size
    have HR := Lib.hid hrel
    clear hrel
    by_cases hlt : j < l.length
    · obtain ⟨b, off, rfl, hcell⟩ := (HV.out.below HR.out.2).oint (by omega)
      have hc := hcell j hlt
      obtain ⟨x, hx⟩ : ∃ x, x = l.getD j 0 := ⟨_, rfl⟩
      rw [← hx] at hc
      have HX := Lib.hid hx
      clear hcell hx
      cases he : (x == n)
      · go_wp2_with (at_builtin; refine wp_app Try.underlying22 hi hz0 hz1 hz2 rfl (by decide) rfl (.tmp 20) (.tmp 25) rfl w.heap.size _ _ _ rfl (HR.out.1.alloc _) _ 1 [.int .i64 x] rfl (SR.lit _ _ _ 1 1 (by decide) rfl) ?c1 ?c2 ?c3 ?c4 ?_)
        case c1 => intro y hy; simp at hy; subst hy; rfl
        case c2 => unfold maxLen; omega
        case c3 => omega
        case c4 => simp; omega
        intro v' w2 hown2 hgr
        have HG := Lib.hid hgr
        have HO := Lib.hid hown2
        clear hgr hown2
        go_wp2_with fail
        go_roundw
        case rel => exact ⟨j + 1, by omega, by simp, offrel_step hlt HR.out (by rw [← HX.out]; exact he) (by rw [← HX.out]; exact HO.out) HG.out⟩
        case measure => simp [intOf]; omega
      · go_wp2_with fail
        go_roundw
        case rel => exact ⟨j + 1, by omega, by simp, offrel_skip hlt HR.out (by rw [← HX.out]; exact he)⟩
        case measure => simp [intOf]; omega
    · have : j = l.length := by omega
      subst this
      go_wp2_with fail
      go_ret
      exact ⟨_, rfl, by have := HR.out.1; rw [List.take_length] at this; exact this, HR.out.2⟩
end Go.Proofs.Ytlabjemjhokcaaa
