/-
  tarnref09: Lay, whatever comes; Drop.
-/
import Derived.Test.YtnjklhmnkjejfaaLayC
namespace Go.Proofs.Ytnjklhmnkjejfaa
open Go.RowKit
set_option linter.unusedVariables false
set_option linter.unusedSimpArgs false

theorem rlay (l : List HI) (x : HI) (m : Bool) (w : World) (v : Value) (hs : Srt l) (hv : SR w v 3 l.length (hCells l)) (hw : (Lit.int .u64 x.v).wf = true) (hd : x.d.size ≤ 40) (hm : MayT m x.v x.d) :
    Calls Try.prog 38 #[v, .int .i64 x.b, .agg (itemA x.v x.d)] w (RLay w v m l x) := by
  by_cases hin : 0 ≤ x.b ∧ x.b < 64
  · obtain ⟨h0, h1⟩ := hin
    cases m
    · exact rlay_bad l x w v hv (by omega) (by omega) hm
    · cases hls : laysL l x
      · obtain ⟨_, y, hy, hn⟩ := lay_not hs hls
        exact rlay_old l x y w v hs hv (by omega) (by omega) hm hy hn
      · exact rlay_new l x w v hs hv ⟨h0, h1, hw, hd⟩ hm hls
  · exact rlay_out l x m w v hv (by omega)
def dropQ (b ver : Int) (h : HI) : Bool := h.b == b && decide (h.v ≤ ver)
theorem drop_snoc (l : List HI) (x : HI) (b ver : Int) : dropL (l ++ [x]) b ver = dropL l b ver ++ (if dropQ b ver x = true then [] else [x]) := by
  unfold dropL dropQ
  rw [List.filter_append]
  congr 1
  cases h : (x.b == b && decide (x.v ≤ ver)) <;> simp only [List.filter_cons, List.filter_nil, h] <;> rfl
theorem drops_any {l : List HI} (hs : Srt l) (b ver : Int) : l.any (dropQ b ver) = dropsL l b ver := by
  cases split_of l b hs.pw with
  | no A B e hA hB =>
    subst e
    rw [dropsL_no hA hB, List.any_eq_false]
    intro y hy
    have : y.b ≠ b := by
      rcases List.mem_append.1 hy with h | h
      · have := hA y h; omega
      · have := hB y h; omega
    simp [dropQ, this]
  | yes A y B e hy hA hB =>
    subst e
    rw [dropsL_yes hA hy, Bool.eq_iff_iff, List.any_eq_true]
    constructor
    · rintro ⟨z, hz, hq⟩
      simp only [dropQ, Bool.and_eq_true, beq_iff_eq, decide_eq_true_eq] at hq
      rcases List.mem_append.1 hz with h | h
      · have := hA z h; omega
      · rcases List.mem_cons.1 h with rfl | h
        · exact decide_eq_true hq.2
        · have := hB z h; omega
    · intro h
      exact ⟨y, by simp, by simp [dropQ, hy, of_decide_eq_true h]⟩
theorem drop_len (l : List HI) (b v : Int) : (dropL l b v).length ≤ l.length := List.length_filter_le _ _
end Go.Proofs.Ytnjklhmnkjejfaa
