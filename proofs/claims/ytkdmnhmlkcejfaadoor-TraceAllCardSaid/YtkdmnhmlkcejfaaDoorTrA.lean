/-
  trace: the numbers of an act, whether it can be traced; a source's Bool.
-/
import Derived.Test.YtkdmnhmlkcejfaaDoorTrP
import Derived.Test.YtkdmnhmlkcejfaaDoorRef
import Derived.Test.YtkdmnhmlkcejfaaDoorHeld
import Derived.BigRegion
import Derived.Deep.RegionLaw
namespace Go.Proofs.YtkdmnhmlkcejfaaDoor
open Go.RowKit
set_option linter.unusedVariables false
set_option linter.unusedSimpArgs false

theorem ba_neT {a b : ByteArray} (h : a ≠ b) : (a.toList == b.toList) = false := by
  rw [beq_eq_false_iff_ne]
  intro e
  rw [ByteArray.toList_eq, ByteArray.toList_eq] at e
  exact h (str_ext e)
theorem ba_emptyT {a : ByteArray} (h : a ≠ ⟨#[]⟩) : ¬ a.toList = [] := by
  intro e
  rw [ByteArray.toList_eq] at e
  exact h (str_ext e)
/-- an act's cells -/
def actC (t : TA) (vm vc : Value) : Array Value := #[.int .i64 t.W, .int .i64 t.P, .int .i64 t.A, .int .i64 t.B, .int .i64 t.aW, .int .i64 t.aA, .int .i64 t.aL, .string ⟨t.D.toArray⟩, .bool t.u, vm, vc, .string ⟨t.S.toArray⟩]
def numsV (t : TA) : Array Value := #[.int .i64 t.W, .int .i64 t.P, .int .i64 t.A, .int .i64 t.B, .int .i64 t.aW, .int .i64 t.aA, .int .i64 t.aL]

theorem sbool_src (b : Nat) (r : RS) (w : World) (h : Src w b r) :
    Calls Tryd.prog 74 #[.pointer (some ⟨b, 0, none⟩)] w fun e w' => e = .returned (.bool r.boolV) ∧ Src w' b r.boolS ∧ Only b w w' := by
  have H := Lib.hid h
  have HL := Lib.hid (takeB_len r 1)
  clear h
  go_enter Tryd.func74, Tryd.ntmps74
  go_wp2_with fail
  refine (take_src b r 1 w H.out).mono ?_
  rintro e w1 ⟨rfl, hs, ho⟩
  have HS := Lib.hid (And.intro hs ho)
  clear hs ho
  obtain ⟨X, hX⟩ : ∃ X, r.takeB 1 = X := ⟨_, rfl⟩
  have HX := Lib.hid hX
  rw [hX]
  clear hX
  by_cases h0 : X = []
  · subst h0
    go_wp2_with fail
    go_ret
    have hb : r.boolS = r.takeS 1 := by unfold RS.boolS; rw [HX.out, if_pos (.inl rfl)]
    exact ⟨ret_bool (by unfold RS.boolV; rw [HX.out]; rfl), by rw [hb]; exact HS.out.1, HS.out.2⟩
  · by_cases h1 : X = [121]
    · subst h1
      go_wp2_with fail
      go_ret
      have hb : r.boolS = r.takeS 1 := by unfold RS.boolS; rw [HX.out, if_pos (.inr (.inl rfl))]
      exact ⟨ret_bool (by unfold RS.boolV; rw [HX.out]; rfl), by rw [hb]; exact HS.out.1, HS.out.2⟩
    · by_cases h2 : X = [110]
      · subst h2
        go_wp2_with fail
        go_ret
        have hb : r.boolS = r.takeS 1 := by unfold RS.boolS; rw [HX.out, if_pos (.inr (.inr rfl))]
        exact ⟨ret_bool (by unfold RS.boolV; rw [HX.out]; rfl), by rw [hb]; exact HS.out.1, HS.out.2⟩
      · have e0 : (⟨X.toArray⟩ : ByteArray) ≠ ⟨#[]⟩ := fun e => h0 (by have := congrArg (fun s => s.data.toList) e; simpa using this)
        have e1 : (⟨X.toArray⟩ : ByteArray) ≠ ⟨#[121]⟩ := fun e => h1 (by have := congrArg (fun s => s.data.toList) e; simpa using this)
        have e2 : (⟨X.toArray⟩ : ByteArray) ≠ ⟨#[110]⟩ := fun e => h2 (by have := congrArg (fun s => s.data.toList) e; simpa using this)
        have n0 := ba_neT e0
        have n0' := ba_emptyT e0
        have n1 := ba_neT e1
        have n2 := ba_neT e2
        have hw := wrong_src b (r.takeS 1) 3 w1 HS.out.1
        have HN := Lib.hid (And.intro h0 (And.intro h1 h2))
        have hx0 : X.isEmpty = false := by simpa using h0
        have hx1 : (X == [121]) = false := by simpa using h1
        have hx2 : (X == [110]) = false := by simpa using h2
        clear e0 e1 e2
        go_wp2_with fail
        refine Calls.mono hw ?_
        rintro e w2 ⟨rfl, hs2, ho2⟩
        have HS2 := Lib.hid (And.intro hs2 ho2)
        clear hs2 ho2 hw
        go_wp2_with fail
        go_ret
        have hb : r.boolS = (r.takeS 1).fail 3 := by
          unfold RS.boolS
          rw [HX.out, if_neg]
          rintro (q | q | q)
          · exact HN.out.1 q
          · exact HN.out.2.1 q
          · exact HN.out.2.2 q
        exact ⟨ret_bool (by unfold RS.boolV; rw [HX.out]; symm; simpa using HN.out.2.1), by rw [hb]; exact HS2.out.1, HS.out.2.trans HS2.out.2⟩

theorem tnumbers (t : TA) (vm vc : Value) (w : World) :
    Calls Tryd.prog 64 #[.agg (actC t vm vc)] w fun e w' => e = .returned (.agg (numsV t)) ∧ Below w.heap.size w w' := by
  obtain ⟨W, P, A, B, aW, aA, aL, D, u, M, C, S⟩ := t
  unfold actC numsV
  simp only
  go_enter Tryd.func64, Tryd.ntmps64
  go_wp2_with fail
  go_returns
  exact ⟨rfl, by go_grown⟩

theorem cnodeT (n : Int) (w : World) : Calls Tryd.prog 99 #[.int .i64 n] w fun v w' => v = .returned (.bool (decide (0 ≤ n ∧ n ≤ 4))) ∧ w = w' := by
  go_enter Tryd.func99, Tryd.ntmps99
  go_wp2
  all_goals go_ret
  all_goals refine ⟨ret_bool ?_, rfl⟩
  all_goals (apply Bool.eq_iff_iff.mpr; simp; try omega)
theorem mayclo (n : Int) (w : World) : Calls Tryd.prog 102 #[.int .i64 n] w fun v w' => v = .returned (.bool (!decide (0 ≤ n ∧ n ≤ 4))) ∧ w = w' := by
  go_enter Tryd.func102, Tryd.ntmps102
  go_wp2_with fail
  refine Calls.mono (cnodeT n w) ?_
  rintro v w' ⟨rfl, rfl⟩
  go_wp2_with fail
  go_ret
  refine ⟨ret_bool ?_, rfl⟩
  apply Bool.eq_iff_iff.mpr
  simp
  try omega
set_option maxRecDepth 100000 in
theorem mayidx (l : List Int) (v : Value) (w : World) (hv : Ints w v l) :
    Calls Tryd.prog 109 #[v, .func (.func 102) #[] #[]] w fun ev w' => (∃ i : Int, ev = .returned (.int .i64 i) ∧ (0 ≤ i ↔ ¬ ∀ x ∈ l, 0 ≤ x ∧ x ≤ 4)) ∧ Below w.heap.size w w' := by
  obtain ⟨a, cap, rfl, hlen, hl⟩ := hv
  obtain ⟨n, hn⟩ : ∃ n, l.length = n := ⟨_, rfl⟩
  have HN := Lib.hid hn
  have HL := Lib.hid hl
  rw [hn] at hlen
  rw [hn]
  clear hl hn
  have eg : ∀ args w, (callFunc 102 args).run Tryd.prog w = .ok (.enter 102 args) w := fun _ _ => by rfl
  go_enter Tryd.func109, Tryd.ntmps109
  go_wp2_with fail
  go_loopw [8] (fun i wr => ∃ (j : Nat), j ≤ n ∧ i = .int .i64 j ∧ Hid (∀ k, k < j → 0 ≤ l.getD k 0 ∧ l.getD k 0 ≤ 4) ∧ Hid (Below w.heap.size w wr)) (fun i _ => n - (intOf i).toNat)
  case atStart => exact ⟨0, Nat.zero_le _, rfl, Lib.hid (fun k hk => absurd hk (by omega)), Lib.hid (Below.refl _ _)⟩
  case round =>
    obtain ⟨j, hj, rfl, HA, HB⟩ := hrel
    by_cases hlt : j < n
    · obtain ⟨b, off, rfl, hb, hc⟩ : ∃ b off, a = some ⟨b, off, none⟩ ∧ b < w.heap.size ∧ ∀ j, j < l.length → w.cell? ⟨b, off + j, none⟩ = some (.int .i64 (l.getD j 0)) := by
        rcases HL.out with h | h
        · have := HN.out; rw [h] at this; simp at this; omega
        · exact h
      have k0 : wr.cell? ⟨b, off + j, none⟩ = some (.int .i64 (l.getD j 0)) := (HB.out.cell (p := ⟨b, off + j, none⟩) hb).trans (hc j (by have := HN.out; omega))
      have HJ := Lib.hid (show l.getD j 0 ∈ l from by
        have hjl : j < l.length := by have := HN.out; omega
        rw [List.getD_eq_getElem?_getD, List.getElem?_eq_getElem hjl]
        exact List.getElem_mem hjl)
      obtain ⟨x, hx⟩ : ∃ x, l.getD j 0 = x := ⟨_, rfl⟩
      have HX := Lib.hid hx
      rw [hx] at k0
      clear hc hb hx
      have cc := fun w => mayclo x w
      by_cases hq : 0 ≤ x ∧ x ≤ 4
      · have HQ := Lib.hid hq
        rw [decide_eq_true hq] at cc
        clear hq
        go_wp2_with fail
        refine Calls.mono (cc _) ?_
        rintro ev w2 ⟨rfl, rfl⟩
        go_wp2_with fail
        go_roundw
        case rel =>
          refine ⟨j + 1, by omega, by go_num, Lib.hid (fun k hk => ?_), HB⟩
          by_cases e : k = j
          · rw [e, HX.out]; exact HQ.out
          · exact HA.out k (by omega)
        case measure => simp [intOf]; omega
      · have HQ := Lib.hid hq
        rw [decide_eq_false hq] at cc
        clear hq
        go_wp2_with fail
        refine Calls.mono (cc _) ?_
        rintro ev w2 ⟨rfl, rfl⟩
        go_wp2_with fail
        go_ret
        refine ⟨⟨_, rfl, ?_⟩, HB.out⟩
        constructor
        · intro _ hall
          have := hall _ HJ.out
          rw [HX.out] at this
          exact HQ.out this
        · intro _
          omega
    · obtain rfl : j = n := by omega
      go_wp2_with fail
      go_ret
      refine ⟨⟨_, rfl, ?_⟩, HB.out⟩
      constructor
      · intro h
        omega
      · intro h
        exact absurd (fun x hx => by
          obtain ⟨k, hk, rfl⟩ := List.mem_iff_getElem.1 hx
          have := HA.out k (by have := HN.out; omega)
          rwa [List.getD_eq_getElem?_getD, List.getElem?_eq_getElem hk] at this) h
theorem mayhas (l : List Int) (v : Value) (w : World) (hv : Ints w v l) :
    Calls Tryd.prog 101 #[v, .func (.func 102) #[] #[]] w fun ev w' => ev = .returned (.bool (!decide (∀ x ∈ l, 0 ≤ x ∧ x ≤ 4))) ∧ Below w.heap.size w w' := by
  have ci := mayidx l v w hv
  clear hv
  go_enter Tryd.func101, Tryd.ntmps101
  go_wp2_with fail
  refine Calls.mono ci ?_
  rintro ev w2 ⟨⟨i, rfl, hi⟩, hb⟩
  have HI := Lib.hid (And.intro hi hb)
  clear hi hb ci
  go_wp2_with fail
  go_ret
  refine ⟨ret_bool ?_, HI.out.2⟩
  have := HI.out.1
  by_cases h : ∀ x ∈ l, 0 ≤ x ∧ x ≤ 4
  · have h2 : ¬ 0 ≤ i := fun e => (this.1 e) h
    simp only [decide_eq_true h, decide_eq_false h2]
    rfl
  · have h2 : 0 ≤ i := this.2 h
    simp only [decide_eq_false h, decide_eq_true h2]
    rfl
theorem maylist (l : List Int) (v : Value) (w : World) (hv : Ints w v l) :
    Calls Tryd.prog 89 #[v] w fun ev w' => ev = .returned (.bool (decide (NodesL l))) ∧ Below w.heap.size w w' := by
  have ci := mayhas l v w hv
  obtain ⟨a, cap, rfl, hlen, -⟩ := hv
  have hd : decide (NodesL l) = (decide (l.length ≤ 3) && decide (∀ x ∈ l, 0 ≤ x ∧ x ≤ 4)) := by
    unfold NodesL
    exact Bool.decide_and _ _
  have HD := Lib.hid hd
  obtain ⟨n, hn⟩ : ∃ n, l.length = n := ⟨_, rfl⟩
  rw [hn] at hlen ci HD
  rw [hn]
  obtain ⟨p, hp⟩ : ∃ p, decide (∀ x ∈ l, 0 ≤ x ∧ x ≤ 4) = p := ⟨_, rfl⟩
  rw [hp] at ci HD
  clear hd hn hp
  by_cases h3 : n ≤ 3
  · have h3' : (n : Int) ≤ 3 := by omega
    rw [decide_eq_true h3] at HD
    go_enter Tryd.func89, Tryd.ntmps89
    go_wp2_with fail
    refine Calls.mono ci ?_
    rintro ev w2 ⟨rfl, hb⟩
    go_wp2_with fail
    go_ret
    exact ⟨ret_bool (by rw [HD.out]; simp), hb⟩
  · have h3' : ¬ (n : Int) ≤ 3 := by omega
    rw [decide_eq_false h3] at HD
    go_enter Tryd.func89, Tryd.ntmps89
    go_wp2_with fail
    go_ret
    exact ⟨ret_bool (by rw [HD.out]; rfl), by go_grown⟩
end Go.Proofs.YtkdmnhmlkcejfaaDoor
