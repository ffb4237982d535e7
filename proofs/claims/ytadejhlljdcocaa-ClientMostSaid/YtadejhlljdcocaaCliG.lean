/-
  No history; the waking call of layer 34; ClientMost's walk.
-/
import Derived.Test.YtadejhlljdcocaaCliF
import Derived.Test.YtadejhlljdcocaaMask
namespace Go.Proofs.Ytadejhlljdcocaa
open Go.RowKit
open Go.Maps (Keyed)
set_option linter.unusedVariables false
set_option linter.unusedSimpArgs false

theorem cask_nil (g what at_ len : Int) (data : ByteArray) (sure : Bool) (w : World) :
    Calls Try.prog 50 #[.pointer none, .int .i64 g, .agg #[.int .i64 what, .int .i64 at_, .int .i64 len, .string data, .bool sure]] w fun e w' => e = .returned (.int .i64 0) ∧ Below w.heap.size w w' := by
  have HB := Lib.hid ((Below.refl w.heap.size w).alloc (Nat.le_refl _) (.cells #[.int .i64 what, .int .i64 at_, .int .i64 len, .string data, .bool sure] 96))
  go_enter Try.func50, Try.ntmps50
  go_wp2_with fail
  go_ret
  exact ⟨rfl, HB.out⟩
theorem ctell_nil (g id err : Int) (data : ByteArray) (w : World) :
    Calls Try.prog 51 #[.pointer none, .int .i64 g, .agg #[.int .i64 id, .int .i64 err, .string data]] w fun e w' => e = .returned (.bool false) ∧ Below w.heap.size w w' := by
  have HB := Lib.hid ((Below.refl w.heap.size w).alloc (Nat.le_refl _) (.cells #[.int .i64 id, .int .i64 err, .string data] 99))
  go_enter Try.func51, Try.ntmps51
  go_wp2_with fail
  go_ret
  exact ⟨rfl, HB.out⟩
theorem call_nil (w : World) : Calls Try.prog 52 #[.pointer none] w fun e w' => e = .returned (.slice none 0 0) ∧ Below w.heap.size w w' := by
  go_enter Try.func52, Try.ntmps52
  go_wp2_with fail
  go_ret
  exact ⟨rfl, Below.refl _ _⟩
theorem copen_nil (w : World) : Calls Try.prog 53 #[.pointer none] w fun e w' => e = .returned (.slice none 0 0) ∧ Below w.heap.size w w' := by
  go_enter Try.func53, Try.ntmps53
  go_wp2_with fail
  go_ret
  exact ⟨rfl, Below.refl _ _⟩
set_option maxHeartbeats 1600000 in
theorem cfind_nil (id : Int) (w : World) : Calls Try.prog 54 #[.pointer none, .int .i64 id] w (FindPost none w) := by
  have hbA := (Below.refl w.heap.size w).alloc (Nat.le_refl _) (.cells #[.int .i64 id] 3)
  have hz : (w.alloc (.cells #[.int .i64 id] 3)).heap.size = w.heap.size + 1 := by simp
  have hbB := hbA.alloc hbA.size (.cells evZ.c.toArray 104)
  have hx2 := heap_alloc_self (w.alloc (.cells #[.int .i64 id] 3)) (.cells evZ.c.toArray 104)
  rw [hz] at hx2
  rw [evZ, evc] at *
  simp only at *
  have HB := Lib.hid hbB
  clear hbA hz hbB
  go_enter Try.func54, Try.ntmps54
  go_upto_region 1 with fail
  generalize (w.alloc (.cells #[.int .i64 id] 3)).alloc (.cells #[.bool false, .int .i64 0, .int .i64 0, .int .i64 0, .int .i64 0, .int .i64 0, .string ⟨#[]⟩, .bool false, .int .i64 0, .string ⟨#[]⟩] 104) = w2 at *
  have fz2 := sfrz0 hx2
  have z0 := set_same hx2 (i := 0) (v := .bool false) rfl
  have z1 := set_same hx2 (i := 1) (v := .int .i64 0) rfl
  have z2 := set_same hx2 (i := 2) (v := .int .i64 0) rfl
  have z3 := set_same hx2 (i := 3) (v := .int .i64 0) rfl
  have z4 := set_same hx2 (i := 4) (v := .int .i64 0) rfl
  have z5 := set_same hx2 (i := 5) (v := .int .i64 0) rfl
  have z6 := set_same hx2 (i := 6) (v := .string ⟨#[]⟩) rfl
  have z7 := set_same hx2 (i := 7) (v := .bool false) rfl
  have z8 := set_same hx2 (i := 8) (v := .int .i64 0) rfl
  have z9 := set_same hx2 (i := 9) (v := .string ⟨#[]⟩) rfl
  have s0 := scell0 hx2 0 (v := .bool false) rfl
  have s1 := scell0 hx2 1 (v := .int .i64 0) rfl
  have s2 := scell0 hx2 2 (v := .int .i64 0) rfl
  have s3 := scell0 hx2 3 (v := .int .i64 0) rfl
  have s4 := scell0 hx2 4 (v := .int .i64 0) rfl
  have s5 := scell0 hx2 5 (v := .int .i64 0) rfl
  have s6 := scell0 hx2 6 (v := .string ⟨#[]⟩) rfl
  have s7 := scell0 hx2 7 (v := .bool false) rfl
  have s8 := scell0 hx2 8 (v := .int .i64 0) rfl
  have s9 := scell0 hx2 9 (v := .string ⟨#[]⟩) rfl
  go_wp2_with fail
  (try simp only [Exit.inBlock, Exit.then])
  refine bodyPost_ret (v := .tuple #[.agg #[.bool false, .int .i64 0, .int .i64 0, .int .i64 0, .int .i64 0, .int .i64 0, .string ⟨#[]⟩, .bool false, .int .i64 0, .string ⟨#[]⟩], .bool false]) (by simp [results, Try.results54, go_sem, s0, s1, s2, s3, s4, s5, s6, s7, s8, s9]) rfl ?_
  exact ⟨rfl, HB.out⟩
set_option maxHeartbeats 3200000 in
set_option maxRecDepth 100000 in
theorem awake34 (w : World) : Calls Try.prog 55 #[] w fun e w' => e = .returned (.bool true) ∧ Below w.heap.size w w' := by
  go_enter Try.func55, Try.ntmps55
  go_wp2_with fail
  refine Calls.mono (cnew _) ?_
  rintro e w1 ⟨p, b, rfl, h1, hb1⟩
  have c2 : Calls Try.prog 50 #[.pointer (some ⟨p, 0, none⟩), .int .i64 5, .agg #[.int .i64 3, .int .i64 0, .int .i64 0, .string ⟨#[]⟩, .bool false]] w1 fun e w' => e = .returned (.int .i64 1) ∧ ∃ sv', Hist w' w.heap.size p b sv' [⟨false, 1, 5, 3, 0, 0, ⟨#[]⟩, false, 0, ⟨#[]⟩⟩] 1 [1] ∧ HKept w1 w' p b (.slice none 0 0) sv' :=
    cask 5 3 0 0 ⟨#[]⟩ false w1 w.heap.size p b _ [] 0 [] h1 (by decide) (by decide) hb1.size
  have H1 := Lib.hid (And.intro h1 hb1)
  clear h1 hb1
  go_wp2_with fail
  refine Calls.mono c2 ?_
  rintro e w2 ⟨rfl, s2, h2, hk2⟩
  have H2 := Lib.hid (And.intro h2 (H1.out.2.trans (HKept.below H1.out.1 hk2 H1.out.2.size)))
  have c3 : Calls Try.prog 51 #[.pointer (some ⟨p, 0, none⟩), .int .i64 5, .agg #[.int .i64 1, .int .i64 0, .string ⟨#[]⟩]] w2 fun e w' => e = .returned (.bool true) ∧ ∃ sv', Hist w' w.heap.size p b sv' [⟨false, 1, 5, 3, 0, 0, ⟨#[]⟩, false, 0, ⟨#[]⟩⟩, ⟨true, 1, 5, 0, 0, 0, ⟨#[]⟩, false, 0, ⟨#[]⟩⟩] 1 [] ∧ HKept w2 w' p b s2 sv' :=
    ctell 5 1 0 ⟨#[]⟩ w2 w.heap.size p b _ _ 1 [1] h2 (by decide) (by decide) (by decide) H2.out.2.size
  clear h2 hk2 c2 H1
  go_wp2_with fail
  refine Calls.mono c3 ?_
  rintro e w3 ⟨rfl, s3, h3, hk3⟩
  have H3 := Lib.hid (And.intro h3 (H2.out.2.trans (HKept.below H2.out.1 hk3 H2.out.2.size)))
  have c4 : Calls Try.prog 54 #[.pointer (some ⟨p, 0, none⟩), .int .i64 1] w3 fun e w' => e = .returned (.tuple #[.agg #[.bool true, .int .i64 1, .int .i64 5, .int .i64 0, .int .i64 0, .int .i64 0, .string ⟨#[]⟩, .bool false, .int .i64 0, .string ⟨#[]⟩], .bool true]) ∧ Below w3.heap.size w3 w' := cfind 1 w3 _ p b _ _ 1 [] h3
  clear h3 hk3 c3 H2
  go_wp2_with fail
  refine Calls.mono c4 ?_
  rintro e w4 ⟨rfl, hb4⟩
  have hb5 := hb4.alloc hb4.size (.cells #[.bool true, .int .i64 1, .int .i64 5, .int .i64 0, .int .i64 0, .int .i64 0, .string ⟨#[]⟩, .bool false, .int .i64 0, .string ⟨#[]⟩] 104)
  have hy := heap_alloc_self w4 (.cells #[.bool true, .int .i64 1, .int .i64 5, .int .i64 0, .int .i64 0, .int .i64 0, .string ⟨#[]⟩, .bool false, .int .i64 0, .string ⟨#[]⟩] 104)
  have H4 := Lib.hid (And.intro (H3.out.1.below hb5) (H3.out.2.trans (hb5.mono H3.out.2.size)))
  clear hb4 hb5 c4 H3
  go_upto_region 5 with fail
  generalize w4.alloc (.cells #[.bool true, .int .i64 1, .int .i64 5, .int .i64 0, .int .i64 0, .int .i64 0, .string ⟨#[]⟩, .bool false, .int .i64 0, .string ⟨#[]⟩] 104) = w5 at *
  have y0 := scell0 hy 0 (v := .bool true) rfl
  have c5 := call_ w5 _ p b _ _ 1 [] H4.out.1 (by decide)
  clear hy
  go_wp2_with fail
  refine Calls.mono c5 ?_
  rintro e w6 ⟨v6, rfl, ho6, hb6⟩
  obtain ⟨a6, k6, rfl, -, -⟩ := (SR.owns ho6).form
  have H6 := Lib.hid (And.intro (H4.out.1.below hb6) (H4.out.2.trans (hb6.mono H4.out.2.size)))
  have c6 := copen w6 _ p b _ _ 1 [] H6.out.1 (by decide)
  clear ho6 hb6 c5 H4 y0
  go_wp2_with fail
  refine Calls.mono c6 ?_
  rintro e w7 ⟨v7, rfl, ho7, hb7⟩
  obtain ⟨a7, k7, rfl, -, -⟩ := (SR.owns ho7).form
  have HB := Lib.hid (H6.out.2.trans (hb7.mono H6.out.2.size))
  clear ho7 hb7 c6
  go_wp2_with fail
  go_ret
  exact ⟨rfl, HB.out⟩
end Go.Proofs.Ytadejhlljdcocaa
