/-
  For every command, every list of commands, and whatever bytes are bent into theirs: what is taken is the document command, or state, or the same error: DecideTakes is true of every input.
-/
import Derived.Test.YtjaaddjbmimjoaaMh38
import Derived.Test.YtjaaddjbmimjoaaMh7
import Derived.ProofKit
import Derived.OpenShut
import Derived.ShutString
import Derived.ChangeOld
import Derived.Carry
import Derived.SizedLaws
namespace Go.Proofs.Ytjaaddjbmimjoaa.decideTakesFrame
open Go.ChangeShapes Go.WideShapes Go.ChangeAt Go.RowKit
open Go.ChangeMaps (open_string shut_string)
set_option linter.unusedVariables false

theorem sh0 : IsSh Try.prog 26 (.two (.int .i64) (.two (.two (.int .i64) (.two (.int .i64) (.two (.int .i64) (.two (.slice (.int .i64)) (.two (.slice (.int .i64)) .unit))))) .unit)) := (.struct Try.underlying26 (.cons (by kernel_rfl) (.int Try.underlying3) (by kernel_rfl) (.cons (by kernel_rfl) (.struct Try.underlying24 (.cons (by kernel_rfl) (.int Try.underlying3) (by kernel_rfl) (.cons (by kernel_rfl) (.int Try.underlying3) (by kernel_rfl) (.cons (by kernel_rfl) (.int Try.underlying3) (by kernel_rfl) (.cons (by kernel_rfl) (.slice Try.underlying22 (.int Try.underlying3) (by kernel_rfl) (by decide)) (by kernel_rfl) (.cons (by kernel_rfl) (.slice Try.underlying22 (.int Try.underlying3) (by kernel_rfl) (by decide)) (by kernel_rfl) .nil))))) (by kernel_rfl)) (by kernel_rfl) .nil)) (by kernel_rfl))
theorem sh1 : IsSh Try.prog 27 (.slice (.two (.int .i64) (.two (.two (.int .i64) (.two (.int .i64) (.two (.int .i64) (.two (.slice (.int .i64)) (.two (.slice (.int .i64)) .unit))))) .unit))) := (.slice Try.underlying27 (.struct Try.underlying26 (.cons (by kernel_rfl) (.int Try.underlying3) (by kernel_rfl) (.cons (by kernel_rfl) (.struct Try.underlying24 (.cons (by kernel_rfl) (.int Try.underlying3) (by kernel_rfl) (.cons (by kernel_rfl) (.int Try.underlying3) (by kernel_rfl) (.cons (by kernel_rfl) (.int Try.underlying3) (by kernel_rfl) (.cons (by kernel_rfl) (.slice Try.underlying22 (.int Try.underlying3) (by kernel_rfl) (by decide)) (by kernel_rfl) (.cons (by kernel_rfl) (.slice Try.underlying22 (.int Try.underlying3) (by kernel_rfl) (by decide)) (by kernel_rfl) .nil))))) (by kernel_rfl)) (by kernel_rfl) .nil)) (by kernel_rfl)) (by kernel_rfl) (by decide))
theorem own : ownKnob Try.prog.godebug = none := by kernel_rfl
theorem laidOut : laidOutB Try.prog = true := by kernel_rfl

set_option maxRecDepth 100000 in
theorem step (H : Type) (enc : TypeId × Value → H) (W : World) (base : Nat) (args : Array Value) (ds gs : List (DataW H)) (before : List MemPlace)
    (hval0 : ∀ (j : Nat) t v, Try.f3.params[j]? = some t → args[j]? = some v → Value.okWide Try.prog W .any base t v)
    (hW : DataW.Whole enc Try.prog Try.f3.params.toList Rows.decideTakesSpec.vars false W args.toList ds gs before) (hZ : (DataW.weightsEach Try.prog (Try.f3.params.toList ++ Rows.decideTakesSpec.plain.varTypes Try.prog) (ds ++ gs)).all (· ≤ reachBytes) = true) :
    Calls Try.prog 3 args W fun e W' => ∃ v, e = .returned v ∧ Rows.decideTakesSpec.post enc Try.prog Try.f3 false true false false W args v W' := by
  have hval : ∀ (j : Nat) t v, Try.f3.params[j]? = some t → args[j]? = some v → Value.okWide Try.prog W .any base t v := hval0
  have hW' := hW
  obtain ⟨p, q, hA0, hV, rfl, hfz, hnd⟩ := hW
  have hA : DataW.TrodAll enc Try.prog W 0 (fun _ => true) true Try.f3.params.toList args.toList ds p := hA0
  rw [Try.params3] at hA hval
  obtain ⟨v0, vs0, d0, ds0, p0, q0, hargs, rfl, rfl, h0, r0⟩ := trodAll_cons hA
  obtain ⟨v1, vs1, d1, ds1, p1, q1, rfl, rfl, rfl, h1, r1⟩ := trodAll_cons r0
  obtain ⟨v2, vs2, d2, ds2, p2, q2, rfl, rfl, rfl, h2, r2⟩ := trodAll_cons r1
  obtain ⟨rfl, rfl, rfl⟩ := trodAll_nil r2
  obtain rfl : args = #[v0, v1, v2] := by cases args; simp_all
  obtain ⟨rfl, rfl⟩ := trodVars_none hV
  have k0 := h0
  have lt0 : ∀ x ∈ p0, x.block < W.heap.size := by obtain ⟨m, hm⟩ := k0; exact DataW.trod_lt m _ _ _ hm
  obtain ⟨c0, rfl, f0⟩ := fits_agg Try.underlying26 (hval 0 26 v0 rfl rfl) (fits_arg sh0 h0)
  have k1 := h1
  have lt1 : ∀ x ∈ p1, x.block < W.heap.size := by obtain ⟨m, hm⟩ := k1; exact DataW.trod_lt m _ _ _ hm
  obtain ⟨a1, len1, cap1, rfl, f1⟩ := fits_slice Try.underlying27 (hval 1 27 v1 rfl rfl) (fits_arg sh1 h1)
  obtain ⟨a2, rfl, rfl, rfl, w2⟩ := open_string Try.underlying9 (hval 2 9 v2 rfl rfl) h2
  have z2 : a2.size ≤ 140737488355328 := by
    have h := sized_string (j := 2) (bytes := a2.data.toList) hZ (by rw [Try.params3]; rfl) rfl
    have h2 := reachBytes_lt
    have e : a2.data.toList.length = a2.size := by rw [Array.length_toList]; rfl
    omega
  clear hA0 hval0
  refine (decidetakes_law c0 a1 len1 cap1 a2 W f0 f1 z2).mono fun e W' ⟨he, bel⟩ => ?_
  subst he
  exact ⟨_, rfl, _, _, _, [], _, [], hW', trodAll_mk1 (shut_bool Try.underlying4 _), (trodAll_cons_mk (Below.trod laidOut (by kernel_rfl) (of_decide_eq_true (by kernel_rfl)) k0 bel lt0) (trodAll_cons_mk (Below.trod laidOut (by kernel_rfl) (of_decide_eq_true (by kernel_rfl)) k1 bel lt1) (trodAll_cons_mk (shut_string Try.underlying9 w2) trodAll_mk0))), rfl, bel.frame _, fun h => by cases h⟩

set_option maxRecDepth 100000 in
theorem lifted (os : Os) (started : os.Started) (H : Type) (enc : TypeId × Value → H) :
    ReturnsInHanded {} Try.checked os 3 .any (Rows.decideTakesSpec.pre6 enc Try.prog Try.f3 Rows.decideTakesRow.domain false) (Rows.decideTakesSpec.post enc Try.prog Try.f3 false true false false) := by
  refine returnsInHanded_of_change_sized (C := Try.checked) own started (by kernel_rfl) Try.func3
    (ChangeSpec.witness6 (enc := enc) (C := Try.checked) false ⟨#[], #[.agg #[.int .i64 0, .int .i64 0, .int .i64 0, .int .i64 0, .slice none 0 0, .slice none 0 0], .slice none 0 0, .string ByteArray.empty], []⟩ 8 (by kernel_rfl) (by kernel_rfl) (by kernel_rfl) (by kernel_rfl)) ?_
  intro W base args ds gs before hval0 hW hcnd hZ _
  exact step H enc W base args ds gs before hval0 hW hZ

theorem over : Rows.decideTakesRow.holds Try.pinned (OpenSpec.ofChange Rows.decideTakesSpec) :=
  OpenClaim.holds_of_wide 3 Try.f3 rfl rfl rfl rfl rfl rfl rfl ⟨rfl, rfl, rfl, rfl, rfl⟩ rfl rfl rfl rfl rfl (by kernel_rfl) Try.func3 (by kernel_rfl)
    (of_decide_eq_true (by kernel_rfl)) (by unfold Func.isWrapper; first | (rw [if_pos (by decide +kernel)]; kernel_rfl) | (rw [if_neg (by decide +kernel)]; exact ⟨rfl, rfl⟩))
    (fun os started H enc _ => lifted os started H enc)

theorem proved : Rows.DecideTakesSaid := over
end Go.Proofs.Ytjaaddjbmimjoaa.decideTakesFrame
