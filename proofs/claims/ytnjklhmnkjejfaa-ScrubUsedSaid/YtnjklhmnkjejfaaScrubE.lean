/-
  tarnlaw43's waking call; ScrubUnlike's walk.
-/
import Derived.Test.YtnjklhmnkjejfaaScrubD
namespace Go.Proofs.Ytnjklhmnkjejfaa
open Go.RowKit
set_option linter.unusedVariables false
set_option linter.unusedSimpArgs false

def h43 : HI := ⟨3, 5, ⟨#[]⟩⟩
theorem h43_good : Good h43 := ⟨by decide, by decide, by decide, by decide⟩
theorem h43_ok : ∀ x ∈ [h43], Ok x := fun x hx => by rw [List.mem_singleton.1 hx]; exact h43_good.ok
theorem h43_of : putAll [] [h43] = [h43] := of_self ⟨by simp, fun x hx => by rw [List.mem_singleton.1 hx]; exact h43_good⟩ (fun x hx => by rw [List.mem_singleton.1 hx]; exact mB_none 5)
theorem aw1 : (((putAll [] ([h43] ++ [])).filter fun h => dif (putAll [] [h43]) (putAll [] []) h.b).map (·.b)).length = 1 := by
  rw [List.append_nil, h43_of, show putAll [] [] = [] from rfl]
  rfl
theorem aw2 : (lacksL (putAll [] []) (putAll [] [h43])).2.length = 1 := by
  rw [h43_of, show putAll [] [] = [] from rfl]
  unfold lacksL lkS
  simp only [List.foldl_cons, List.foldl_nil]
  rw [show h43.v = 5 from rfl, show h43.d = ⟨#[]⟩ from rfl, mB_none 5, if_pos (by decide)]
  rfl
theorem aw3 : (((putAll [] ([h43] ++ [h43])).filter fun h => dif (putAll [] [h43]) (putAll [] [h43]) h.b).map (·.b)).length = 0 := by
  have h1 : putAll [] ([h43] ++ [h43]) = [h43] := by
    rw [putAll_app, h43_of]
    show putB [h43] h43 = _
    unfold putB putL
    rw [show h43.v = 5 from rfl, show h43.d = ⟨#[]⟩ from rfl, mB_none 5, if_pos (by decide)]
    rfl
  rw [h1, h43_of]
  simp [dif]
set_option maxHeartbeats 1600000 in
set_option maxRecDepth 100000 in
theorem awake43 (w : World) : Calls Try.prog 23 #[] w fun e w' => e = .returned (.bool true) ∧ Below w.heap.size w w' := by
  have hl := good_lit h43 w
  have hb0 := (Below.refl w.heap.size w).alloc (Nat.le_refl _) (.cells #[.int .i64 h43.b, .int .u64 h43.v, .string h43.d] 45)
  have e0 : w.alloc (.cells #[.int .i64 h43.b, .int .u64 h43.v, .string h43.d] 45) = w.alloc (.cells #[.int .i64 3, .int .u64 5, .string ⟨#[]⟩] 45) := rfl
  rw [e0] at hl hb0
  have hnil : ∀ w' : World, SR w' (.slice none 0 0) 3 ([] : List HI).length (hCells []) := fun w' => SR.nil_ _ _
  have hno : ∀ x ∈ ([] : List HI), Ok x := fun x hx => by cases hx
  go_enter Try.func23, Try.ntmps23
  go_upto_region 2 with fail
  generalize w.alloc (.cells #[.int .i64 3, .int .u64 5, .string ⟨#[]⟩] 45) = w1 at *
  have HL := Lib.hid hl
  have HB := Lib.hid hb0
  have c1 := sunlike [h43] [] h43_ok hno w1 _ _ HL.out (hnil _)
  rw [aw1] at c1
  clear hl hb0 e0
  go_wp2_with fail
  refine Calls.mono c1 ?_
  rintro e w2 ⟨v2, rfl, hr2, hb2⟩
  obtain ⟨a2, k2, rfl, -, -⟩ := hr2.form
  have HB2 := Lib.hid (HB.out.trans (hb2.mono HB.out.size))
  have HL2 := Lib.hid (HL.out.below hb2)
  have c2 := slacks [h43] [] h43_ok hno w2 _ _ HL2.out (hnil _)
  rw [aw2] at c2
  clear hr2 hb2 c1
  go_wp2_with fail
  refine Calls.mono c2 ?_
  rintro e w3 ⟨v3, rfl, hr3, hb3⟩
  obtain ⟨a3, k3, rfl, -, -⟩ := (SR.owns hr3).form
  have HB3 := Lib.hid (HB2.out.trans (hb3.mono HB2.out.size))
  have HL3 := Lib.hid (HL2.out.below hb3)
  have c3 := sunlike [h43] [h43] h43_ok h43_ok w3 _ _ HL3.out HL3.out
  rw [aw3] at c3
  clear hr3 hb3 c2
  go_wp2_with fail
  refine Calls.mono c3 ?_
  rintro e w4 ⟨v4, rfl, hr4, hb4⟩
  obtain ⟨a4, k4, rfl, -, -⟩ := hr4.form
  have HB4 := Lib.hid (HB3.out.trans (hb4.mono HB3.out.size))
  clear hr4 hb4 c3
  go_wp2_with fail
  go_ret
  exact ⟨rfl, HB4.out⟩
theorem dCells_get (A B : List HI) : ∀ (K : List Int) (k i : Nat) (n : Int) (u : Value), K[k]? = some n → i < 5 → (dC A B n)[i]? = some u → (dCells A B K)[k * 5 + i]? = some u
  | [], k, i, n, u, h, _, _ => by simp at h
  | m :: t, 0, i, n, u, h, hi, hu => by
    simp at h; subst h
    simp only [dCells, List.flatMap_cons, Nat.zero_mul, Nat.zero_add]
    rw [List.getElem?_append_left (by simp [dC]; omega)]
    exact hu
  | m :: t, k + 1, i, n, u, h, hi, hu => by
    have := dCells_get A B t k i n u (by simpa using h) hi hu
    simp only [dCells, List.flatMap_cons]
    rw [List.getElem?_append_right (by simp [dC]; omega), show (k + 1) * 5 + i - (dC A B m).length = k * 5 + i by simp [dC]; omega]
    exact this
theorem diffkey : Try.prog.keyTypeAt 6 88 = true := by kernel_rfl
theorem diffguard : Try.prog.eqGuardType Try.prog.depth 88 = false := by kernel_rfl
theorem diff_formed (b x : Int) (s : ByteArray) (y : Int) (t : ByteArray) : (Value.agg #[.int .i64 b, .int .u64 x, .string s, .int .u64 y, .string t]).formed Try.prog 88 = true := by kernel_rfl
theorem diff_lits (b x : Int) (s : ByteArray) (y : Int) (t : ByteArray) (hb : (Lit.int .i64 b).wf = true) (hx : (Lit.int .u64 x).wf = true) (hs : s.size ≤ maxLen) (hy : (Lit.int .u64 y).wf = true) (ht : t.size ≤ maxLen) :
    Try.prog.keyLits 5 88 [.int .i64 b, .int .u64 x, .string s, .int .u64 y, .string t] = some [.int .i64 b, .int .u64 x, .string s.data.toList, .int .u64 y, .string t.data.toList] := by
  have c0 : Try.prog.cellsOf 88 = 5 := by kernel_rfl
  have c1 : Try.prog.cellsOf 24 = 2 := by kernel_rfl
  have c3 : Try.prog.cellsOf 3 = 1 := by kernel_rfl
  have hi := item_lits x s hx hs
  have hj := item_lits y t hy ht
  have hn : Try.prog.keyLits 4 3 [.int .i64 b] = some [.int .i64 b] := by simp [Program.keyLits, Try.underlying3, hb]
  unfold Program.keyLits
  simp [Try.underlying88, c0, c1, c3, hi, hj, hn]
theorem diff_neq (b x : Int) (s : ByteArray) (y : Int) (t : ByteArray) (hb : (Lit.int .i64 b).wf = true) (hx : (Lit.int .u64 x).wf = true) (hs : s.size ≤ maxLen) (hy : (Lit.int .u64 y).wf = true) (ht : t.size ≤ maxLen) (w : World) :
    (binOp .neq 88 (.agg #[.int .i64 b, .int .u64 x, .string s, .int .u64 y, .string t]) (.agg #[.int .i64 b, .int .u64 x, .string s, .int .u64 y, .string t])).run Try.prog w = .ok (.bool false) w :=
  (eq_deep (m := 6) (D := 5) (D' := 5) diffkey (by decide) (diff_formed _ _ _ _ _) (diff_formed _ _ _ _ _) (diff_lits _ _ _ _ _ hb hx hs hy ht) (diff_lits _ _ _ _ _ hb hx hs hy ht) true (by simp) w).2
end Go.Proofs.Ytnjklhmnkjejfaa
