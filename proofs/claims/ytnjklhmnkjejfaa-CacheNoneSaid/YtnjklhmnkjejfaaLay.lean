/-
  tarnref09: Get, Same: what the document says of a block's item, and of two lists.
-/
import Derived.Test.YtnjklhmnkjejfaaSetC
namespace Go.Proofs.Ytnjklhmnkjejfaa
open Go.RowKit
set_option linter.unusedVariables false
set_option linter.unusedSimpArgs false

theorem get_at {l : List HI} {b : Int} {j : Nat} {x : HI} (h : ∀ y ∈ l.take j, y.b ≠ b) (hx : l[j]? = some x) (hb : x.b = b) : getL l b = some x := by
  have hj := (List.getElem?_eq_some_iff.1 hx).1
  have e : l = l.take j ++ x :: l.drop (j + 1) := by
    rw [List.getElem?_eq_getElem hj] at hx
    have := Option.some.inj hx
    rw [← this, ← List.drop_eq_getElem_cons hj, List.take_append_drop]
  rw [e]
  unfold getL
  rw [List.find?_append, List.find?_eq_none.2 (fun y hy => by simpa using h y hy)]
  simp [hb]
theorem get_none {l : List HI} {b : Int} (h : ∀ y ∈ l, y.b ≠ b) : getL l b = none := by
  unfold getL
  rw [List.find?_eq_none]
  intro y hy
  simpa using h y hy
theorem take_next {l : List HI} {j : Nat} {x : HI} (hx : l[j]? = some x) : l.take (j + 1) = l.take j ++ [x] := by
  have hj := (List.getElem?_eq_some_iff.1 hx).1
  rw [List.getElem?_eq_getElem hj] at hx
  rw [List.take_succ_eq_append_getElem hj, Option.some.inj hx]
theorem heldkey : Try.prog.keyTypeAt 5 45 = true := by kernel_rfl
theorem heldguard : Try.prog.eqGuardType Try.prog.depth 45 = false := by kernel_rfl
theorem held_formed (b x : Int) (s : ByteArray) : (Value.agg #[.int .i64 b, .int .u64 x, .string s]).formed Try.prog 45 = true := by kernel_rfl
theorem held_lits (b x : Int) (s : ByteArray) (hb : (Lit.int .i64 b).wf = true) (hx : (Lit.int .u64 x).wf = true) (hs : s.size ≤ maxLen) : Try.prog.keyLits 5 45 [.int .i64 b, .int .u64 x, .string s] = some [.int .i64 b, .int .u64 x, .string s.data.toList] := by
  have c0 : Try.prog.cellsOf 45 = 3 := by kernel_rfl
  have c1 : Try.prog.cellsOf 24 = 2 := by kernel_rfl
  have c2 : Try.prog.cellsOf 22 = 1 := by kernel_rfl
  have c3 : Try.prog.cellsOf 3 = 1 := by kernel_rfl
  have c4 : Try.prog.cellsOf 9 = 1 := by kernel_rfl
  have hi := item_lits x s hx hs
  have hn : Try.prog.keyLits 4 3 [.int .i64 b] = some [.int .i64 b] := by simp [Program.keyLits, Try.underlying3, hb]
  unfold Program.keyLits
  simp [Try.underlying45, c0, c1, c3, hi, hn]
theorem held_neq (h : HI) (w : World) (hb : (Lit.int .i64 h.b).wf = true) (hx : (Lit.int .u64 h.v).wf = true) (hs : h.d.size ≤ maxLen) :
    (binOp .neq 45 (.agg #[.int .i64 h.b, .int .u64 h.v, .string h.d]) (.agg #[.int .i64 h.b, .int .u64 h.v, .string h.d])).run Try.prog w = .ok (.bool false) w :=
  (eq_deep (m := 5) (D := 5) (D' := 5) heldkey (by decide) (held_formed _ _ _) (held_formed _ _ _) (held_lits _ _ _ hb hx hs) (held_lits _ _ _ hb hx hs) true (by simp) w).2
theorem good_wf {h : HI} (g : Good h) : (Lit.int .i64 h.b).wf = true ∧ (Lit.int .u64 h.v).wf = true ∧ h.d.size ≤ maxLen := by
  obtain ⟨h0, h1, h2, h3⟩ := g
  exact ⟨wf_of (by omega), h2, by unfold maxLen; omega⟩
set_option maxHeartbeats 1600000 in
set_option maxRecDepth 100000 in
theorem rget (l : List HI) (b : Int) (w : World) (v : Value) (hv : SR w v 3 l.length (hCells l)) :
    Calls Try.prog 56 #[v, .int .i64 b] w fun e w' => e = .returned (.tuple #[.agg (itemA (gv (getL l b)) (gd (getL l b))), .bool (getL l b).isSome]) ∧ Below w.heap.size w w' := by
  have hb0 := (Below.refl w.heap.size w).alloc (Nat.le_refl _) (.cells #[.int .u64 0, .string ⟨#[]⟩] 24)
  have hy := heap_alloc_self w (.cells #[.int .u64 0, .string ⟨#[]⟩] 24)
  have hsr := hv.below hb0
  obtain ⟨a, cap, rfl, hlc, hcm⟩ := hv.form
  unfold maxLen at hcm
  obtain ⟨O, hO⟩ : ∃ O, getL l b = O := ⟨_, rfl⟩
  rw [hO]
  have HO := Lib.hid hO
  clear hv hO
  unfold itemA
  go_enter Try.func56, Try.ntmps56
  go_upto_region 1 with fail
  generalize w.alloc (.cells #[.int .u64 0, .string ⟨#[]⟩] 24) = w1 at *
  have HV := Lib.hid hsr
  have HB := Lib.hid hb0
  have f0 : w1.frozen? ⟨w.heap.size, 0, none⟩ = false := by simp [World.frozen?, hy]
  have f1 : w1.frozen? ⟨w.heap.size, 1, none⟩ = false := by simp [World.frozen?, hy]
  have d0 : w1.cell? ⟨w.heap.size, 0, none⟩ = some (.int .u64 0) := by simp [World.cell?, hy]
  have d1 : w1.cell? ⟨w.heap.size, 1, none⟩ = some (.string ⟨#[]⟩) := by simp [World.cell?, hy]
  clear hsr hb0
  go_wp2_with fail
  go_loopw [6] (fun i wr => ∃ j : Nat, j ≤ l.length ∧ i = .int .i64 j ∧ wr = w1 ∧ Hid (∀ y ∈ l.take j, y.b ≠ b)) (fun i _ => l.length - (intOf i).toNat)
  case atStart => exact ⟨0, Nat.zero_le _, rfl, rfl, Lib.hid (by simp)⟩
  case round =>
    obtain ⟨j, hj, rfl, rfl, HN⟩ := hrel
    by_cases hlt : j < l.length
    · obtain ⟨x, hx⟩ : ∃ x, l[j]? = some x := ⟨_, List.getElem?_eq_getElem hlt⟩
      obtain ⟨g, off, rfl, -, c0, c1, c2⟩ := sr_held HV.out j x hx
      have HX := Lib.hid hx
      clear hx
      by_cases hxb : x.b = b
      · obtain rfl : O = some x := by rw [← HO.out]; exact get_at HN.out HX.out hxb
        go_wp2_with fail
        (try simp only [Exit.inBlock, Exit.then])
        obtain ⟨s0, s1⟩ := item_over hy x.v x.d
        have FO := Lib.hid ((HB.out.setCell (p := ⟨w.heap.size, 0, none⟩) (Nat.le_refl _) (.int .u64 x.v)).setCell (p := ⟨w.heap.size, 1, none⟩) (Nat.le_refl _) (.string x.d))
        generalize (wr.setCell ⟨w.heap.size, 0, none⟩ (.int .u64 x.v)).setCell ⟨w.heap.size, 1, none⟩ (.string x.d) = w5 at *
        refine bodyPost_ret (v := .tuple #[.agg #[.int .u64 x.v, .string x.d], .bool true]) (by simp [results, Try.results56, go_sem, s0, s1]) rfl ?_
        exact ⟨rfl, FO.out⟩
      · have hxb' : (x.b == b) = false := by simpa using hxb
        go_wp2_with fail
        go_roundw
        case rel => exact ⟨j + 1, by omega, by go_num, (by first | rfl | trivial), Lib.hid (by rw [take_next HX.out]; intro y hy; rcases List.mem_append.1 hy with h | h; exact HN.out y h; rw [List.mem_singleton.1 h]; exact hxb)⟩
        case measure => simp [intOf]; omega
    · obtain rfl : j = l.length := by omega
      obtain rfl : O = none := by rw [← HO.out]; exact get_none (l := l) (b := b) (by have := HN.out; rwa [List.take_length] at this)
      go_wp2_with fail
      (try simp only [Exit.inBlock, Exit.then])
      obtain ⟨s0, s1⟩ := item_over hy 0 ⟨#[]⟩
      have FO := Lib.hid ((HB.out.setCell (p := ⟨w.heap.size, 0, none⟩) (Nat.le_refl _) (.int .u64 0)).setCell (p := ⟨w.heap.size, 1, none⟩) (Nat.le_refl _) (.string ⟨#[]⟩))
      generalize (wr.setCell ⟨w.heap.size, 0, none⟩ (.int .u64 0)).setCell ⟨w.heap.size, 1, none⟩ (.string ⟨#[]⟩) = w5 at *
      refine bodyPost_ret (v := .tuple #[.agg #[.int .u64 0, .string ⟨#[]⟩], .bool false]) (by simp [results, Try.results56, go_sem, s0, s1]) rfl ?_
      exact ⟨rfl, FO.out⟩
end Go.Proofs.Ytnjklhmnkjejfaa
