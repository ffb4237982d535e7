/-
  PlanRounds' walk: all is reckoned in place, way by way.
-/
import Derived.Test.YtnnmpfhliabpbaaBase
import Derived.WalkSpells
import Derived.WalkLawsBesides
import Derived.BigQuiet
import Derived.Deep.QuietTactic
namespace Go.Proofs.Ytnnmpfhliabpbaa
open Go.RowKit
set_option linter.unusedVariables false

theorem plan_awake (w : World) : Calls Try.prog 56 #[] w fun e w' => e = .returned (.bool true) ∧ w = w' := by
  go_enter Try.func56, Try.ntmps56
  go_wp2
  go_ret
  exact ⟨rfl, rfl⟩
set_option maxHeartbeats 1600000 in
theorem rounds_law (p d : Int) (w : World) (hp : (Lit.int .i64 p).wf = true) (hd : (Lit.int .i64 d).wf = true) :
    Calls Try.prog 14 #[.int .i64 p, .int .i64 d] w fun e w' => e = .returned (.bool true) ∧ Below w.heap.size w w' := by
  clear hp hd
  go_enter Try.func14, Try.ntmps14
  go_wp2
  all_goals go_ret
  all_goals exact ⟨rfl, Below.refl _ _⟩
end Go.Proofs.Ytnnmpfhliabpbaa
