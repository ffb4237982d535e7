/-
  What may not be is not begun, and what is nothing does nothing: for every configuration that is bent so or otherwise, every four numbers and every item.
-/
import Derived.Test.YtkdmnhmlkcejfaaDoorOpG
import Derived.Test.YtkdmnhmlkcejfaaDoorFits
import Derived.Test.YtkdmnhmlkcejfaaDoorArr
import Derived.ProofKit
import Derived.OpenShut
import Derived.ShutString
import Derived.ChangeOld
import Derived.Carry
import Derived.JoinedCond
import Derived.Test.YtkdmnhmlkcejfaaDoorCards
import Derived.Test.YtkdmnhmlkcejfaaDoorTie
import Derived.Deep.DeepHandedRow
import Derived.Lib.LaidTab
import Derived.LaidSub
namespace Go.Proofs.YtkdmnhmlkcejfaaDoor.opInputFrame
open Go.ChangeShapes Go.WideShapes Go.ChangeAt Go.RowKit
open Go.ChangeMaps (open_string shut_string)
set_option linter.unusedVariables false

theorem sh0 : IsSh Tryd.prog 24 (.two (.int .i64) (.two (.int .i64) (.two (.int .i64) (.two (.slice (.int .i64)) (.two (.slice (.int .i64)) .unit))))) := (.struct Tryd.underlying24 (.cons (by kernel_rfl) (.int Tryd.underlying3) (by kernel_rfl) (.cons (by kernel_rfl) (.int Tryd.underlying3) (by kernel_rfl) (.cons (by kernel_rfl) (.int Tryd.underlying3) (by kernel_rfl) (.cons (by kernel_rfl) (.slice Tryd.underlying22 (.int Tryd.underlying3) (by kernel_rfl) (by decide)) (by kernel_rfl) (.cons (by kernel_rfl) (.slice Tryd.underlying22 (.int Tryd.underlying3) (by kernel_rfl) (by decide)) (by kernel_rfl) .nil))))) (by kernel_rfl))
theorem sh2 : IsSh Tryd.prog 28 (.two (.int .u64) (.two .str .unit)) := (.struct Tryd.underlying28 (.cons (by kernel_rfl) (.int Tryd.underlying26) (by kernel_rfl) (.cons (by kernel_rfl) (.str Tryd.underlying9) (by kernel_rfl) .nil)) (by kernel_rfl))
theorem own : ownKnob Tryd.prog.godebug = none := by kernel_rfl
theorem laidOut : laidOutB Tryd.prog = true := by kernel_rfl
theorem gTab0 : Tryd.prog.globalNamed "tarn/op.says" = some 0 := by kernel_rfl
theorem gTabType0 : (Tryd.prog.globals[0]?).map (·.type) = some 72 := by kernel_rfl
theorem cellsT0 : Tryd.prog.cellsOf 72 = 5 := by kernel_rfl
theorem cellsE0 : Tryd.prog.cellsOf 3 = 1 := by kernel_rfl
theorem table0 {W : World} (h : laidMetH Tryd.prog Rows.opInputRow.laid W) : Lib.TabIs Tryd.prog W "tarn/op.says" .i64 [11, 13, 15, 17, 19] := by
  have h1 : laidMet Tryd.prog [("tarn/op.says", Rows.laid_tarn_op_says), ("tarn/op.hears", Rows.laid_tarn_op_hears)] W := h
  have h2 := laidMet.filter (fun x => x.1 == "tarn/op.says") h1
  simp at h2
  exact Lib.tabIs_of_head (rest := []) gTab0 gTabType0 Tryd.underlying72 Tryd.underlying3 cellsE0 cellsT0 h2
theorem gTab1 : Tryd.prog.globalNamed "tarn/op.hears" = some 1 := by kernel_rfl
theorem gTabType1 : (Tryd.prog.globals[1]?).map (·.type) = some 72 := by kernel_rfl
theorem cellsT1 : Tryd.prog.cellsOf 72 = 5 := by kernel_rfl
theorem cellsE1 : Tryd.prog.cellsOf 3 = 1 := by kernel_rfl
theorem table1 {W : World} (h : laidMetH Tryd.prog Rows.opInputRow.laid W) : Lib.TabIs Tryd.prog W "tarn/op.hears" .i64 [12, 14, 16, 18, 20] := by
  have h1 : laidMet Tryd.prog [("tarn/op.says", Rows.laid_tarn_op_says), ("tarn/op.hears", Rows.laid_tarn_op_hears)] W := h
  have h2 := laidMet.filter (fun x => x.1 == "tarn/op.hears") h1
  simp at h2
  exact Lib.tabIs_of_head (rest := []) gTab1 gTabType1 Tryd.underlying72 Tryd.underlying3 cellsE1 cellsT1 h2
theorem tab {W : World} (h : laidMetH Tryd.prog Rows.opInputRow.laid W) : TabO W :=
  ⟨(by have := (table0 h).cell gTab0 0 (by decide); simpa using this), (by have := (table1 h).cell gTab1 0 (by decide); simpa using this)⟩


set_option maxRecDepth 100000 in
theorem step (H : Type) (enc : TypeId × Value → H) (W : World) (base : Nat) (args : Array Value) (ds gs : List (DataW H)) (before : List MemPlace)
    (hval0 : ∀ (j : Nat) t v, Tryd.f3.params[j]? = some t → args[j]? = some v → Value.okWide Tryd.prog W .any base t v)
    (hW : DataW.Whole enc Tryd.prog Tryd.f3.params.toList Rows.opInputSpec.vars false W args.toList ds gs before) (hL : laidMetH Tryd.prog Rows.opInputRow.laid W) :
    Calls Tryd.prog 3 args W fun e W' => ∃ v, e = .returned v ∧ Rows.opInputSpec.post enc Tryd.prog Tryd.f3 false true false false W args v W' := by
  have hval : ∀ (j : Nat) t v, Tryd.f3.params[j]? = some t → args[j]? = some v → Value.okWide Tryd.prog W .any base t v := hval0
  have hW' := hW
  obtain ⟨p, q, hA0, hV, rfl, hfz, hnd⟩ := hW
  have hA : DataW.TrodAll enc Tryd.prog W 0 (fun _ => true) true Tryd.f3.params.toList args.toList ds p := hA0
  rw [Tryd.params3] at hA hval
  obtain ⟨v0, vs0, d0, ds0, p0, q0, hargs, rfl, rfl, h0, r0⟩ := trodAll_cons hA
  obtain ⟨v1, vs1, d1, ds1, p1, q1, rfl, rfl, rfl, h1, r1⟩ := trodAll_cons r0
  obtain ⟨v2, vs2, d2, ds2, p2, q2, rfl, rfl, rfl, h2, r2⟩ := trodAll_cons r1
  obtain ⟨rfl, rfl, rfl⟩ := trodAll_nil r2
  obtain rfl : args = #[v0, v1, v2] := by cases args; simp_all
  obtain ⟨rfl, rfl⟩ := trodVars_none hV
  have k0 := h0
  have lt0 : ∀ x ∈ p0, x.block < W.heap.size := by obtain ⟨m, hm⟩ := k0; exact DataW.trod_lt m _ _ _ hm
  obtain ⟨c0, rfl, f0⟩ := fits_agg Tryd.underlying24 (hval 0 24 v0 rfl rfl) (fits_arg sh0 h0)
  have k1 := h1
  have lt1 : ∀ x ∈ p1, x.block < W.heap.size := by obtain ⟨m, hm⟩ := k1; exact DataW.trod_lt m _ _ _ hm
  obtain ⟨z1, rfl, l1, w1⟩ := ints_arr Tryd.underlying25 Tryd.underlying3 (by kernel_rfl) (by kernel_rfl) (hval 1 25 v1 rfl rfl) h1
  obtain ⟨a1_0, a1_1, a1_2, a1_3, rfl⟩ : ∃ a1_0 a1_1 a1_2 a1_3, z1 = [a1_0, a1_1, a1_2, a1_3] := by
    match z1, l1 with
    | [a1_0, a1_1, a1_2, a1_3], _ => exact ⟨a1_0, a1_1, a1_2, a1_3, rfl⟩
  have k2 := h2
  have lt2 : ∀ x ∈ p2, x.block < W.heap.size := by obtain ⟨m, hm⟩ := k2; exact DataW.trod_lt m _ _ _ hm
  obtain ⟨c2, rfl, f2⟩ := fits_agg Tryd.underlying28 (hval 2 28 v2 rfl rfl) (fits_arg sh2 h2)
  clear hA0 hval0
  refine (opinput_law c0 a1_0 a1_1 a1_2 a1_3 c2 W f0 (w1 a1_0 (by simp)) (w1 a1_1 (by simp)) (w1 a1_2 (by simp)) (w1 a1_3 (by simp)) f2 (tab hL)).mono fun e W' ⟨he, bel⟩ => ?_
  subst he
  exact ⟨_, rfl, _, _, _, [], _, [], hW', trodAll_mk1 (shut_bool Tryd.underlying4 _), (trodAll_cons_mk (Below.trod laidOut (by kernel_rfl) (of_decide_eq_true (by kernel_rfl)) k0 bel lt0) (trodAll_cons_mk (Below.trod laidOut (by kernel_rfl) (of_decide_eq_true (by kernel_rfl)) k1 bel lt1) (trodAll_cons_mk (Below.trod laidOut (by kernel_rfl) (of_decide_eq_true (by kernel_rfl)) k2 bel lt2) trodAll_mk0))), rfl, bel.frame _, fun h => by cases h⟩

noncomputable def laidWorld (os : Os) : World := { World.holding Tryd.prog os ⟨#[], #[], []⟩ with heap := (((World.holding Tryd.prog os ⟨#[], #[], []⟩).heap.modify 0 fun | .cells _ t frozen => .cells #[.int .i64 11, .int .i64 13, .int .i64 15, .int .i64 17, .int .i64 19] t frozen | o => o).modify 1 fun | .cells _ t frozen => .cells #[.int .i64 12, .int .i64 14, .int .i64 16, .int .i64 18, .int .i64 20] t frozen | o => o) }
theorem laid_met (os : Os) : laidMet Tryd.prog Rows.opInputRow.laid ((laidWorld os).forCall (fun _ _ => 0) ⟨#[], #[.agg #[.int .i64 0, .int .i64 0, .int .i64 0, .slice none 0 0, .slice none 0 0], .agg #[.int .i64 0, .int .i64 0, .int .i64 0, .int .i64 0], .agg #[.int .u64 0, .string ByteArray.empty]], []⟩).memory :=
  laidMet_of_run' 8 (by kernel_rfl) (by kernel_rfl)
theorem reads (os : Os) {H : Type} (enc : TypeId × Value → H) : ∃ places, DataW.whole enc Tryd.prog ((laidWorld os).forCall (fun _ _ => 0) ⟨#[], #[.agg #[.int .i64 0, .int .i64 0, .int .i64 0, .slice none 0 0, .slice none 0 0], .agg #[.int .i64 0, .int .i64 0, .int .i64 0, .int .i64 0], .agg #[.int .u64 0, .string ByteArray.empty]], []⟩).memory Tryd.f3.params.toList Rows.opInputSpec.vars false (#[.agg #[.int .i64 0, .int .i64 0, .int .i64 0, .slice none 0 0, .slice none 0 0], .agg #[.int .i64 0, .int .i64 0, .int .i64 0, .int .i64 0], .agg #[.int .u64 0, .string ByteArray.empty]] : Array Value).toList 8 = some ([.agg [.lit (.int .i64 0), .lit (.int .i64 0), .lit (.int .i64 0), .nil, .nil], .agg [.lit (.int .i64 0), .lit (.int .i64 0), .lit (.int .i64 0), .lit (.int .i64 0)], .agg [.lit (.int .u64 0), .lit (.string [])]], [], places) :=
  ⟨[], by kernel_rfl⟩
set_option maxRecDepth 100000 in
theorem lifted (os : Os) (started : os.Started) (H : Type) (enc : TypeId × Value → H) (F : Stop.Interp) :
    ReturnsInHanded {} Tryd.checked os 3 .any ((OpenSpec.ofChange Rows.opInputSpec).preRow enc Tryd.prog Tryd.f3 Rows.opInputRow.domain false Rows.opInputRow.laid) (((OpenSpec.ofChange Rows.opInputSpec).at F).post enc Tryd.prog Tryd.f3 false true false false) := by
  obtain ⟨places, hx⟩ := reads os enc
  refine returnsInHanded_of_row (C := Tryd.checked) (s := OpenSpec.ofChange Rows.opInputSpec) own started (by kernel_rfl) Tryd.func3
    (witness_row_at (enc := enc) (C := Tryd.checked) false (laidWorld os) #[.agg #[.int .i64 0, .int .i64 0, .int .i64 0, .slice none 0 0, .slice none 0 0], .agg #[.int .i64 0, .int .i64 0, .int .i64 0, .int .i64 0], .agg #[.int .u64 0, .string ByteArray.empty]] rfl (by kernel_rfl) (by kernel_rfl) (by kernel_rfl)
      (OpenSpec.preRow_of_cond 8 hx (by kernel_rfl) (fun k hk => by cases hk) (by kernel_rfl) (laid_met os))) ?_
  intro W base args ds gs before hval hW _ _ _ hL _ _
  exact step H enc W base args ds gs before hval hW hL

theorem said : Rows.OpInputSaid :=
  OpenClaim.holds_of_cond 3 Tryd.f3 rfl rfl rfl rfl rfl rfl rfl ⟨rfl, rfl, rfl, rfl, rfl⟩ rfl rfl rfl rfl rfl (by kernel_rfl) Tryd.func3 (by kernel_rfl)
    (of_decide_eq_true (by kernel_rfl)) (by unfold Func.isWrapper; first | (rw [if_pos (by decide +kernel)]; kernel_rfl) | (rw [if_neg (by decide +kernel)]; exact ⟨rfl, rfl⟩))
    (fun os started H enc _ F => by rw [OpenClaim.pre_eq_preRow]; exact lifted os started H enc F)

theorem plain (f : FuncId) (fn : Func) (hf : Tryd.pinned.checked.prog.funcNamed "tarn/tarnlaw32.OpInput" = some f) (hfn : Tryd.pinned.checked.prog.funcs[f]? = some fn) :
    false = Tryd.pinned.checked.prog.looks [] ∧ ∀ (j : Nat) t, fn.params[j]? = some t → Tryd.pinned.checked.prog.wantsStandIn t = false := by
  obtain rfl : f = 3 := Option.some.inj ((show Tryd.prog.funcNamed "tarn/tarnlaw32.OpInput" = some 3 by kernel_rfl).symm.trans hf) |>.symm
  obtain rfl : fn = Tryd.f3 := (Option.some.inj (Tryd.func3.symm.trans hfn)).symm
  refine ⟨by kernel_rfl, fun j t ht => ?_⟩
  rw [Tryd.params3] at ht
  have hm := Array.mem_of_getElem? ht
  simp only [List.mem_toArray, List.mem_cons, List.not_mem_nil, or_false] at hm
  rcases hm with rfl | rfl | rfl
  · exact (show Tryd.prog.wantsStandIn 24 = false by kernel_rfl)
  · exact (show Tryd.prog.wantsStandIn 25 = false by kernel_rfl)
  · exact (show Tryd.prog.wantsStandIn 28 = false by kernel_rfl)

theorem proved : Rows.OpInputCardSaid :=
  Claim7.holds_tied_plain_at .later [] _ _ _ _ said (fun _ h => by cases h) (by kernel_rfl) (fun _ h => by cases h) opInput_row_tie rfl ⟨rfl, rfl⟩ (by kernel_rfl) rfl plain (by kernel_rfl)
end Go.Proofs.YtkdmnhmlkcejfaaDoor.opInputFrame
