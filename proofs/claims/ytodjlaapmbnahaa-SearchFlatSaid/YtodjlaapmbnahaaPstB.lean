/-
  past: the map of answers, made.
-/
import Derived.Test.YtodjlaapmbnahaaPst
import Derived.Test.YtodjlaapmbnahaaFltC
namespace Go.Proofs.Ytodjlaapmbnahaa
open Go.RowKit
open Go.Maps (Keyed)
set_option linter.unusedVariables false
set_option linter.unusedSimpArgs false

theorem elts_len {α : Type} {w : World} {c : α → List Value} {sz : Nat} {v : Value} {rs : List α} (h : Elts w c sz v rs) : ∃ a cap, v = .slice a rs.length cap ∧ rs.length ≤ cap ∧ cap ≤ maxLen := by
  obtain ⟨a, cap, e, h1, h2, -⟩ := h
  exact ⟨a, cap, e, h1, h2⟩
theorem meas_p (n j : Nat) (h : j < n) : n - (intOf (.int .i64 ((j + 1 : Nat) : Int))).toNat < n - (intOf (.int .i64 (j : Int))).toNat := by
  show n - ((j + 1 : Nat) : Int).toNat < n - (j : Int).toNat
  omega
theorem take_next {α : Type} {l : List α} {j : Nat} {x : α} (h : l[j]? = some x) : l.take (j + 1) = l.take j ++ [x] := by
  obtain ⟨hj, e⟩ := List.getElem?_eq_some_iff.1 h
  rw [List.take_succ_eq_append_getElem hj, e]
theorem take_len {α : Type} {l : List α} {j : Nat} {x : α} (h : l[j]? = some x) : (l.take j).length = j := by
  have := (List.getElem?_eq_some_iff.1 h).1
  simp; omega
/-- the element j, as it is loaded -/
theorem ev_cells {w : World} {a : Option Addr} {n cap : Nat} {E : List Ev} (h : Elts w Ev.c 10 (.slice a n cap) E) {j : Nat} {x : Ev} (hj : E[j]? = some x) : ∃ b off, a = some ⟨b, off, none⟩ ∧ b < w.heap.size ∧
    w.cell? ⟨b, off + j * 10, none⟩ = some (.bool x.ans) ∧ w.cell? ⟨b, off + j * 10 + 1, none⟩ = some (.int .i64 x.id) ∧ w.cell? ⟨b, off + j * 10 + 2, none⟩ = some (.int .i64 x.gate) ∧ w.cell? ⟨b, off + j * 10 + 3, none⟩ = some (.int .i64 x.what) ∧ w.cell? ⟨b, off + j * 10 + 4, none⟩ = some (.int .i64 x.at_) ∧ w.cell? ⟨b, off + j * 10 + 5, none⟩ = some (.int .i64 x.len) ∧ w.cell? ⟨b, off + j * 10 + 6, none⟩ = some (.string x.data) ∧ w.cell? ⟨b, off + j * 10 + 7, none⟩ = some (.bool x.sure) ∧ w.cell? ⟨b, off + j * 10 + 8, none⟩ = some (.int .i64 x.err) ∧ w.cell? ⟨b, off + j * 10 + 9, none⟩ = some (.string x.txt) := by
  obtain ⟨-, b, off, rfl, hb, hc⟩ := h.at_ hj
  exact ⟨b, off, rfl, hb, hc 0 _ rfl, hc 1 _ rfl, hc 2 _ rfl, hc 3 _ rfl, hc 4 _ rfl, hc 5 _ rfl, hc 6 _ rfl, hc 7 _ rfl, hc 8 _ rfl, hc 9 _ rfl⟩
abbrev evO (x : Ev) : Obj := .cells #[.bool x.ans, .int .i64 x.id, .int .i64 x.gate, .int .i64 x.what, .int .i64 x.at_, .int .i64 x.len, .string x.data, .bool x.sure, .int .i64 x.err, .string x.txt] 36
theorem fld_ok (k : Int) (b : Bool) (w : World) : (Instr.field 93 (.agg #[.int .i64 k, .bool b]) 1).run Try.prog w = .ok (.bool b) w := by kernel_rfl
theorem fld_at (k : Int) (b : Bool) (w : World) : (Instr.field 93 (.agg #[.int .i64 k, .bool b]) 0).run Try.prog w = .ok (.int .i64 k) w := by kernel_rfl
def PAnsP (E : List Ev) (w : World) (e : Ending) (w' : World) : Prop := ∃ b, e = .returned (.map (some b)) ∧ Told w' b E.length E ∧ w.heap.size ≤ b ∧ Below w.heap.size w w'
set_option maxHeartbeats 3200000 in
set_option maxRecDepth 100000 in
theorem panswers (E : List Ev) (v : Value) (w : World) (hE : Elts w Ev.c 10 v E) (hid : ∀ e ∈ E, (Lit.int .i64 e.id).wf = true) :
    Calls Try.prog 27 #[v] w (PAnsP E w) := by
  obtain ⟨a, cap, rfl, hlc, hcm⟩ := elts_len hE
  unfold PAnsP
  have hmm := @run_makeMap Try.prog
  obtain ⟨n, hn⟩ : ∃ n, E.length = n := ⟨_, rfl⟩
  have hx : n ≤ maxLen := by omega
  have hx' : (n : Int) ≤ 9223372036854775807 := by unfold maxLen at hx; omega
  have HE := Lib.hid (And.intro hE (And.intro hid (And.intro hn hx)))
  rw [hn]
  have H0 := Lib.hid (And.intro (told_made w) ((Below.refl w.heap.size w).alloc (Nat.le_refl _) (.map #[] 0)))
  obtain ⟨N, hN⟩ : ∃ N, w.heap.size = N := ⟨_, rfl⟩
  rw [hN] at H0
  clear hE hid hn hlc hcm hx
  go_enter Try.func27, Try.ntmps27
  go_upto_region 2 with fail
  clear hmm
  try rw [hN]
  generalize w.alloc (.map #[] 0) = w1 at *
  go_wp2_with fail
  go_loopw [9] (fun i wr => ∃ j : Nat, j ≤ n ∧ i = .int .i64 j ∧ Hid (Told wr N j (E.take j) ∧ Below N w wr)) (fun i _ => n - (intOf i).toNat)
  case atStart => exact ⟨0, Nat.zero_le _, rfl, Lib.hid ⟨by simpa using H0.out.1, H0.out.2⟩⟩
  case round =>
    obtain ⟨j, hj, rfl, HR⟩ := hrel
    clear H0
    by_cases hlt : j < n
    · obtain ⟨x, hx⟩ : ∃ x, E[j]? = some x := ⟨_, List.getElem?_eq_getElem (by have := HE.out.2.2.1; omega)⟩
      obtain ⟨g, off, rfl, hg, k0, k1, k2, k3, k4, k5, k6, k7, k8, k9⟩ := ev_cells (HE.out.1.below (HR.out.2.mono (by have := HR.out.1.lt; omega))) hx
      have hxi := HE.out.2.1 x (List.mem_of_getElem? hx)
      have hTa := HR.out.1.below ((Below.refl _ _).alloc (Nat.le_refl _) (evO x))
      have hlk := hTa.look x.id hxi
      have hb2 := HR.out.2.alloc (by rw [← hN] ; exact HR.out.2.size) (evO x)
      have hal := heap_alloc_self wr (evO x)
      obtain ⟨o, ho⟩ : ∃ o, told (E.take j) x.id = o := ⟨_, rfl⟩
      rw [ho] at hlk
      have hNb : N < (wr.alloc (evO x)).heap.size := hTa.lt
      have hsk := hTa.skip x
      have hst := hTa.store x
      rw [take_len hx] at hst
      rw [ho] at hsk hst
      have hsk2 : (x.ans = true → o ≠ none) → Hid (Told (wr.alloc (evO x)) N (j + 1) (E.take (j + 1)) ∧ Below N w (wr.alloc (evO x))) := fun q => Lib.hid ⟨by rw [take_next hx]; exact (hsk q).mono (Nat.le_succ _), hb2⟩
      have hst2 : x.ans = true → o = none → ∃ w', (Instr.mapUpdate 84 (.map (some N)) (.int .i64 x.id) (.agg #[.int .i64 j, .bool true])).run Try.prog (wr.alloc (evO x)) = .ok () w' ∧ Hid (Told w' N (j + 1) (E.take (j + 1)) ∧ Below N w w') := by
        intro q1 q2
        obtain ⟨w', r1, r2, r3⟩ := hst q1 q2 (by have := HE.out.2.2.2; omega) hxi
        exact ⟨w', r1, Lib.hid ⟨by rw [take_next hx]; exact r2, hb2.grown r3 (by omega) (fun k e => by injection e with e; omega)⟩⟩
      clear hx hxi hTa hb2 ho HR hg hsk hst
      unfold evO at *
      obtain ⟨an, id, ga, wh, aa, le, da, su, er, tx⟩ := x
      dsimp only at k0 k1 k2 k3 k4 k5 k6 k7 k8 k9 hlk hal hNb hsk2 hst2
      cases an
      · have HQ := hsk2 (fun q => by cases q)
        clear hsk2 hst2
        go_wp2_with fail
        go_roundw
        case rel => exact ⟨j + 1, by omega, by go_num, HQ⟩
        case measure => exact meas_p n j hlt
      · cases o with
        | some k =>
          have HQ := hsk2 (fun _ q => by cases q)
          clear hsk2 hst2
          unfold tolV at hlk
          dsimp only at hlk
          have hfl := fld_ok
          go_wp2_with fail
          go_roundw
          case rel => exact ⟨j + 1, by omega, by go_num, HQ⟩
          case measure => exact meas_p n j hlt
        | none =>
          obtain ⟨w2, hrun, HQ⟩ := hst2 rfl rfl
          clear hsk2 hst2
          unfold tolV at hlk
          dsimp only at hlk
          have hfl := fld_ok
          go_wp2_with fail
          go_roundw
          case rel => exact ⟨j + 1, by omega, by go_num, HQ⟩
          case measure => exact meas_p n j hlt
    · obtain rfl : j = n := by omega
      go_wp2_with fail
      go_ret
      have h1 := HR.out.1
      rw [List.take_of_length_le (by have := HE.out.2.2.1; omega)] at h1
      exact ⟨N, rfl, h1, by omega, HR.out.2.mono (by omega)⟩
end Go.Proofs.Ytodjlaapmbnahaa
