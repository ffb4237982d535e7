/-
  DERIVED. GIVEN WITH THE SEED: THE PROGRAM's TIES (one call each: nine closed facts by the kernel) AND EACH ROW's TIE, after the 31st guide's Derived/Test/Toyas{Tie, Card}.lean. No idea stands in it: it is a product of the set-up. Laid BY PROGRAM, IN A SANDBOX (cutbox-door.mjs). By AI agents, Wed Nov 11 2026. No macro, syntax, notation, axiom, sorry.
-/
import Derived.Test.YtkdmnhmlkcejfaaDoorRows
import Derived.LaidByTextLater
import Derived.SevenTiedAt
import Derived.LaidSub
import Derived.LaidOnce
namespace Go.Proofs.YtkdmnhmlkcejfaaDoor
open Go
set_option maxRecDepth 100000
theorem seatTie1 : Tryd.prog.laidByTextLater [("tarn/crc.nibbles", Rows.laid_tarn_crc_nibbles), ("tarn/op.says", Rows.laid_tarn_op_says), ("tarn/op.hears", Rows.laid_tarn_op_hears)] [.data, .data, .data] true :=
  Program.laidByTextLater_by_one 24 8 17 (by kernel_rfl) (by kernel_rfl) (by kernel_rfl) (by kernel_rfl) (by kernel_rfl) (by kernel_rfl) (fun _ _ => by kernel_rfl)
theorem noOwnUnsafe : Tryd.pinned.checked.prog.headLifts.contains "ownunsafe" = false := by kernel_rfl
theorem tie : Tryd.prog.laidByTextLater [("tarn/op.says", Rows.laid_tarn_op_says), ("tarn/op.hears", Rows.laid_tarn_op_hears)] [.data, .data] true :=
  Program.laidByTextLater.sub seatTie1 ["tarn/op.says", "tarn/op.hears"] (by kernel_rfl) (by kernel_rfl)
theorem opInput_row_tie : Rows.opInputRow.laidByTextAt .later Tryd.pinned [.data, .data] true :=
  OpenClaim.laidByTextAt_later rfl rfl tie noOwnUnsafe
theorem tie2 : Tryd.prog.laidByTextLater [("tarn/crc.nibbles", Rows.laid_tarn_crc_nibbles)] [.data] true :=
  Program.laidByTextLater.sub seatTie1 ["tarn/crc.nibbles"] (by kernel_rfl) (by kernel_rfl)
theorem traceAll_row_tie : Rows.traceAllRow.laidByTextAt .later Tryd.pinned [.data] true :=
  OpenClaim.laidByTextAt_later rfl rfl tie2 noOwnUnsafe
theorem opInputUpto_row_tie : Rows.opInputUptoRow.laidByTextAt .later Tryd.pinned [.data, .data] true :=
  OpenClaim.laidByTextAt_later rfl rfl tie noOwnUnsafe
theorem traceAllUpto_row_tie : Rows.traceAllUptoRow.laidByTextAt .later Tryd.pinned [.data] true :=
  OpenClaim.laidByTextAt_later rfl rfl tie2 noOwnUnsafe
end Go.Proofs.YtkdmnhmlkcejfaaDoor
