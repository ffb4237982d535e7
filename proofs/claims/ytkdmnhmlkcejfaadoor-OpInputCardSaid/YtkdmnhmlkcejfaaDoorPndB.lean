/-
  Who must answer: what is left, in order; the waking call; PendOnce's walk.
-/
import Derived.Test.YtkdmnhmlkcejfaaDoorPndA
namespace Go.Proofs.YtkdmnhmlkcejfaaDoor
open Go.RowKit
set_option linter.unusedVariables false

def pB (a b c d e : Bool) : Nat → Bool | 0 => a | 1 => b | 2 => c | 3 => d | 4 => e | _ => false
def leftK (f : Nat → Bool) : Nat → List Int | 0 => [] | k + 1 => leftK f k ++ (if f k then [(k : Int)] else [])
theorem leftK_le (f : Nat → Bool) (k : Nat) : (leftK f k).length ≤ k := by
  induction k with
  | zero => simp [leftK]
  | succ k ih => simp only [leftK, List.length_append]; split <;> simp <;> omega
def LeftRel (f : Nat → Bool) (k : Nat) (v : Value) (w wr : World) : Prop := wr.ownsRow w.heap.size 3 1 v (leftK f k).length (nCells (leftK f k)) ∧ Below w.heap.size w wr
def LeftPost (l : List Int) (w : World) (e : Ending) (w' : World) : Prop := ∃ v, e = .returned v ∧ SR w' v 1 l.length (nCells l) ∧ Below w.heap.size w w'
theorem left_step {f : Nat → Bool} {k : Nat} {v v' : Value} {w wr w' : World} {o : Obj} (hr : LeftRel f k v w wr) (hf : f k = true) (h : w'.ownsRow w.heap.size 3 1 v' ((leftK f k).length + 1) (nCells (leftK f k) ++ [.int .i64 (k : Int)])) (hg : (wr.alloc o).grownBy w' v.ownBlock) : LeftRel f (k + 1) v' w w' := by
  have hb := hr.2.size
  refine ⟨?_, below_app (hr.2.alloc hb o) hg (hr.1.alloc o) (Nat.le_refl _) (by simp; omega)⟩
  have e : leftK f (k + 1) = leftK f k ++ [(k : Int)] := by simp [leftK, hf]
  rw [e, List.length_append, ← nCells_append]
  exact h
theorem left_skip {f : Nat → Bool} {k : Nat} {v : Value} {w wr : World} (hr : LeftRel f k v w wr) (hf : f k = false) : LeftRel f (k + 1) v w wr := by
  have e : leftK f (k + 1) = leftK f k := by simp [leftK, hf]
  unfold LeftRel
  rw [e]
  exact hr
set_option maxHeartbeats 3200000 in
theorem left_any (a b c d e : Bool) (w : World) : Calls Tryd.prog 30 #[.agg #[.bool a, .bool b, .bool c, .bool d, .bool e]] w (LeftPost (leftK (pB a b c d e) 5) w) := by
  obtain ⟨i0, hi, hz0, hz1, hz2⟩ := info_parts info_i64
  have x0 : ∀ w : World, (Instr.index 65 (.agg #[.bool a, .bool b, .bool c, .bool d, .bool e]) (.int .i64 0)).run Tryd.prog w = .ok (.bool a) w := fun _ => by kernel_rfl
  have x1 : ∀ w : World, (Instr.index 65 (.agg #[.bool a, .bool b, .bool c, .bool d, .bool e]) (.int .i64 1)).run Tryd.prog w = .ok (.bool b) w := fun _ => by kernel_rfl
  have x2 : ∀ w : World, (Instr.index 65 (.agg #[.bool a, .bool b, .bool c, .bool d, .bool e]) (.int .i64 2)).run Tryd.prog w = .ok (.bool c) w := fun _ => by kernel_rfl
  have x3 : ∀ w : World, (Instr.index 65 (.agg #[.bool a, .bool b, .bool c, .bool d, .bool e]) (.int .i64 3)).run Tryd.prog w = .ok (.bool d) w := fun _ => by kernel_rfl
  have x4 : ∀ w : World, (Instr.index 65 (.agg #[.bool a, .bool b, .bool c, .bool d, .bool e]) (.int .i64 4)).run Tryd.prog w = .ok (.bool e) w := fun _ => by kernel_rfl
  obtain ⟨f, hf⟩ : ∃ f, f = pB a b c d e := ⟨_, rfl⟩
  rw [← hf]
  have f0 : f 0 = a := by rw [hf]; rfl
  have f1 : f 1 = b := by rw [hf]; rfl
  have f2 : f 2 = c := by rw [hf]; rfl
  have f3 : f 3 = d := by rw [hf]; rfl
  have f4 : f 4 = e := by rw [hf]; rfl
  have F := Lib.hid (And.intro f0 (And.intro f1 (And.intro f2 (And.intro f3 f4))))
  clear f0 f1 f2 f3 f4 hf
  go_enter Tryd.func30, Tryd.ntmps30
  go_wp2_with fail
  go_loopw [3, 8] (fun v i wr => ∃ k : Nat, k ≤ 5 ∧ i = .int .i64 k ∧ LeftRel f k v w wr) (fun _ i _ => 5 - (intOf i).toNat)
  case atStart => exact ⟨0, by omega, rfl, World.ownsRow_nil _ _ _ _, by go_grown⟩
  case round =>
    obtain ⟨k, hk, rfl, hrel⟩ := hrel
    have hkl := leftK_le f k
    have HR := Lib.hid hrel
    have hsz := hrel.2.size
    have hk' : k = 0 ∨ k = 1 ∨ k = 2 ∨ k = 3 ∨ k = 4 ∨ k = 5 := by omega
    clear hrel
    rcases hk' with rfl | rfl | rfl | rfl | rfl | rfl
    · cases a
      · go_wp2_with fail
        go_roundw
        case rel => exact ⟨1, by omega, rfl, left_skip HR.out F.out.1⟩
        case measure => simp [intOf]
      · go_wp2_with (at_builtin; refine wp_app Tryd.underlying22 hi hz0 hz1 hz2 rfl (by decide) rfl (.tmp 13) (.tmp 15) rfl w.heap.size _ _ _ rfl (HR.out.1.alloc _) _ 1 [.int .i64 0] rfl (SR.lit _ _ _ 1 1 (by decide) rfl) ?c1 ?c2 ?c3 ?c4 ?_)
        case c1 => intro y hy; simp at hy; subst hy; rfl
        case c2 => unfold maxLen; omega
        case c3 => omega
        case c4 => simp; omega
        intro v' w2 hown2 hgr
        have HG := Lib.hid hgr
        have HO := Lib.hid hown2
        clear hgr hown2
        go_wp2_with fail
        go_roundw
        case rel => exact ⟨1, by omega, rfl, left_step HR.out F.out.1 HO.out HG.out⟩
        case measure => simp [intOf]
    · cases b
      · go_wp2_with fail
        go_roundw
        case rel => exact ⟨2, by omega, rfl, left_skip HR.out F.out.2.1⟩
        case measure => simp [intOf]
      · go_wp2_with (at_builtin; refine wp_app Tryd.underlying22 hi hz0 hz1 hz2 rfl (by decide) rfl (.tmp 13) (.tmp 15) rfl w.heap.size _ _ _ rfl (HR.out.1.alloc _) _ 1 [.int .i64 1] rfl (SR.lit _ _ _ 1 1 (by decide) rfl) ?c1 ?c2 ?c3 ?c4 ?_)
        case c1 => intro y hy; simp at hy; subst hy; rfl
        case c2 => unfold maxLen; omega
        case c3 => omega
        case c4 => simp; omega
        intro v' w2 hown2 hgr
        have HG := Lib.hid hgr
        have HO := Lib.hid hown2
        clear hgr hown2
        go_wp2_with fail
        go_roundw
        case rel => exact ⟨2, by omega, rfl, left_step HR.out F.out.2.1 HO.out HG.out⟩
        case measure => simp [intOf]
    · cases c
      · go_wp2_with fail
        go_roundw
        case rel => exact ⟨3, by omega, rfl, left_skip HR.out F.out.2.2.1⟩
        case measure => simp [intOf]
      · go_wp2_with (at_builtin; refine wp_app Tryd.underlying22 hi hz0 hz1 hz2 rfl (by decide) rfl (.tmp 13) (.tmp 15) rfl w.heap.size _ _ _ rfl (HR.out.1.alloc _) _ 1 [.int .i64 2] rfl (SR.lit _ _ _ 1 1 (by decide) rfl) ?c1 ?c2 ?c3 ?c4 ?_)
        case c1 => intro y hy; simp at hy; subst hy; rfl
        case c2 => unfold maxLen; omega
        case c3 => omega
        case c4 => simp; omega
        intro v' w2 hown2 hgr
        have HG := Lib.hid hgr
        have HO := Lib.hid hown2
        clear hgr hown2
        go_wp2_with fail
        go_roundw
        case rel => exact ⟨3, by omega, rfl, left_step HR.out F.out.2.2.1 HO.out HG.out⟩
        case measure => simp [intOf]
    · cases d
      · go_wp2_with fail
        go_roundw
        case rel => exact ⟨4, by omega, rfl, left_skip HR.out F.out.2.2.2.1⟩
        case measure => simp [intOf]
      · go_wp2_with (at_builtin; refine wp_app Tryd.underlying22 hi hz0 hz1 hz2 rfl (by decide) rfl (.tmp 13) (.tmp 15) rfl w.heap.size _ _ _ rfl (HR.out.1.alloc _) _ 1 [.int .i64 3] rfl (SR.lit _ _ _ 1 1 (by decide) rfl) ?c1 ?c2 ?c3 ?c4 ?_)
        case c1 => intro y hy; simp at hy; subst hy; rfl
        case c2 => unfold maxLen; omega
        case c3 => omega
        case c4 => simp; omega
        intro v' w2 hown2 hgr
        have HG := Lib.hid hgr
        have HO := Lib.hid hown2
        clear hgr hown2
        go_wp2_with fail
        go_roundw
        case rel => exact ⟨4, by omega, rfl, left_step HR.out F.out.2.2.2.1 HO.out HG.out⟩
        case measure => simp [intOf]
    · cases e
      · go_wp2_with fail
        go_roundw
        case rel => exact ⟨5, by omega, rfl, left_skip HR.out F.out.2.2.2.2⟩
        case measure => simp [intOf]
      · go_wp2_with (at_builtin; refine wp_app Tryd.underlying22 hi hz0 hz1 hz2 rfl (by decide) rfl (.tmp 13) (.tmp 15) rfl w.heap.size _ _ _ rfl (HR.out.1.alloc _) _ 1 [.int .i64 4] rfl (SR.lit _ _ _ 1 1 (by decide) rfl) ?c1 ?c2 ?c3 ?c4 ?_)
        case c1 => intro y hy; simp at hy; subst hy; rfl
        case c2 => unfold maxLen; omega
        case c3 => omega
        case c4 => simp; omega
        intro v' w2 hown2 hgr
        have HG := Lib.hid hgr
        have HO := Lib.hid hown2
        clear hgr hown2
        go_wp2_with fail
        go_roundw
        case rel => exact ⟨5, by omega, rfl, left_step HR.out F.out.2.2.2.2 HO.out HG.out⟩
        case measure => simp [intOf]
    · go_wp2_with fail
      go_ret
      exact ⟨_, rfl, SR.owns HR.out.1, HR.out.2⟩
end Go.Proofs.YtkdmnhmlkcejfaaDoor
