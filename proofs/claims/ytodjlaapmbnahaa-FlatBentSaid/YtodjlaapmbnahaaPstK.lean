/-
  pledge: what a block may hold (Of), the walk.
-/
import Derived.Test.YtodjlaapmbnahaaPstJ
namespace Go.Proofs.Ytodjlaapmbnahaa
open Go.RowKit
open Go.Maps (Keyed)
set_option linter.unusedVariables false
set_option linter.unusedSimpArgs false

/-- the writings of a block -/
def wrU (E : List Ev) (B block : Int) : List Us := (usesN E B block E.length).filter (fun u => u.wr)
structure Over (W : List Us) : Prop where
  til : ∀ u ∈ W, u.til < 1073741824 ∧ (Lit.int .i64 u.til).wf = true ∧ (Lit.int .i64 u.from_).wf = true
  over : ∀ u ∈ W, (W.map (fun u => u.from_)).any (fun x => decide (u.til < x)) = true ∨ u.val = sureU W
def POfP (s : ByteArray) (w : World) (e : Ending) (w' : World) : Prop := e = .returned (.agg #[.string s, .slice none 0 0]) ∧ Below w.heap.size w w'
end Go.Proofs.Ytodjlaapmbnahaa
