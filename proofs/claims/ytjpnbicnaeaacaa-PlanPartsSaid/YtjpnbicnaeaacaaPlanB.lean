/-
  plan: how much what is asked for is, thing by thing; Parts; the reference's May.
-/
import Derived.Test.YtjpnbicnaeaacaaNeedE
namespace Go.Proofs.Ytjpnbicnaeaacaa
open Go.RowKit
set_option linter.unusedVariables false
set_option linter.unusedSimpArgs false

theorem awake37 (w : World) : Calls Try.prog 22 #[] w fun e w' => e = .returned (.bool true) ∧ w = w' := by
  go_enter Try.func22, Try.ntmps22
  go_wp2
  go_ret
  exact ⟨rfl, rfl⟩
structure AskV where
  W : Int
  A : Int
  L : Int
  D : ByteArray
  S : Bool
def AskV.cells (a : AskV) : List Value := [.int .i64 a.W, .int .i64 a.A, .int .i64 a.L, .string a.D, .bool a.S]
def AskV.ok (a : AskV) : Prop := (Lit.int .i64 a.W).wf = true ∧ (Lit.int .i64 a.A).wf = true ∧ (Lit.int .i64 a.L).wf = true ∧ a.D.size ≤ maxLen
def asksC (l : List AskV) : List Value := l.flatMap AskV.cells
theorem asksC_len (l : List AskV) : (asksC l).length = l.length * 5 := by
  induction l with
  | nil => rfl
  | cons a l ih => simp [asksC, AskV.cells] at ih ⊢; omega
theorem asksC_snoc (l : List AskV) (a : AskV) : asksC (l ++ [a]) = asksC l ++ a.cells := by simp [asksC]
theorem asksC_get (l : List AskV) (j i : Nat) (hj : j < l.length) (hi : i < 5) : (asksC l)[j * 5 + i]? = (l[j]).cells[i]? := by
  induction l generalizing j with
  | nil => simp at hj
  | cons a l ih =>
    have e : asksC (a :: l) = a.cells ++ asksC l := rfl
    have hl : a.cells.length = 5 := rfl
    rw [e]
    cases j with
    | zero => rw [List.getElem?_append_left (by omega)]; simp
    | succ j =>
      rw [List.getElem?_append_right (by omega), hl, show (j + 1) * 5 + i - 5 = j * 5 + i by omega]
      simpa using ih j (by simpa using hj)
/-- how much a thing counts -/
def cost (B d : Int) (a : AskV) : Int := if a.W = 3 then min (max d 0) 64 else if AskMay a.W a.A a.L a.D B then 2 * (askSz a.W a.L a.D / 32) else 0
theorem cost_le (B d : Int) (a : AskV) : 0 ≤ cost B d a ∧ cost B d a ≤ 64 := by
  unfold cost
  split
  · omega
  · split
    · rename_i h1 h2
      have h := (h2.elim (fun h => absurd h h1) (fun h => h.2.2))
      unfold Inside at h
      omega
    · omega
/-- all together, till it is the most -/
def satS (B d : Int) (l : List AskV) : Int := l.foldl (fun n a => if 4000 ≤ n then n else n + cost B d a) 0
theorem satS_snoc (B d : Int) (l : List AskV) (a : AskV) : satS B d (l ++ [a]) = if 4000 ≤ satS B d l then satS B d l else satS B d l + cost B d a := by unfold satS; rw [List.foldl_append]; rfl
theorem satS_le (B d : Int) (l : List AskV) : 0 ≤ satS B d l ∧ satS B d l ≤ 4063 := by
  have : ∀ (l : List AskV) (n : Int), 0 ≤ n → n ≤ 4063 → 0 ≤ l.foldl (fun n a => if 4000 ≤ n then n else n + cost B d a) n ∧ l.foldl (fun n a => if 4000 ≤ n then n else n + cost B d a) n ≤ 4063 := by
    intro l
    induction l with
    | nil => intro n h1 h2; exact ⟨h1, h2⟩
    | cons a l ih =>
      intro n h1 h2
      have := cost_le B d a
      refine ih _ ?_ ?_ <;> (dsimp only; split <;> omega)
  exact this l 0 (by omega) (by omega)
theorem satS_stay (B d : Int) (l : List AskV) (j : Nat) (h : 4000 ≤ satS B d (l.take j)) : satS B d l = satS B d (l.take j) := by
  have hs : ∀ (m : List AskV) (n : Int), 4000 ≤ n → m.foldl (fun n a => if 4000 ≤ n then n else n + cost B d a) n = n := by
    intro m
    induction m with
    | nil => intro n _; rfl
    | cons a m ih => intro n hn; simp only [List.foldl_cons, if_pos hn]; exact ih n hn
  conv => lhs; rw [← List.take_append_drop j l]
  unfold satS at *
  rw [List.foldl_append]
  exact hs _ _ h
theorem satS_succ (B d : Int) (l : List AskV) (j : Nat) (hj : j < l.length) (h : satS B d (l.take j) < 4000) : satS B d (l.take (j + 1)) = satS B d (l.take j) + cost B d l[j] := by
  rw [List.take_succ_eq_append_getElem hj, satS_snoc, if_neg (by omega)]

/-- how many parts there are, to the number -/
theorem nparts_cnt (W A L : Int) (D : ByteArray) (S : Bool) (B : Int) (w : World) (hA : (Lit.int .i64 A).wf = true) (hL : (Lit.int .i64 L).wf = true) (hD : D.size ≤ maxLen) (hW : W ≠ 3) :
    Calls Try.prog 19 #[.agg (askA W A L D S), .int .i64 B] w fun e w' => ∃ a m cap, e = .returned (.slice a m cap) ∧ m ≤ 4 ∧ (if AskMay W A L D B then 2 * (askSz W L D / 32) else 0) = 2 * (m : Int) ∧ Below w.heap.size w w' := by
  by_cases h : AskMay W A L D B
  · have hin : Inside A (askSz W L D) B := h.elim (fun h => absurd h hW) (fun h => h.2.2)
    unfold Inside at hin
    obtain ⟨q, hq⟩ : ∃ q : Nat, A = ((32 * q : Nat) : Int) := ⟨(A / 32).toNat, by omega⟩
    obtain ⟨m, hm⟩ : ∃ m : Nat, askSz W L D = ((32 * m : Nat) : Int) := ⟨(askSz W L D / 32).toNat, by omega⟩
    subst hq
    refine (nparts W L q m D S B w hL hD hW h hm).mono ?_
    rintro e w' ⟨v, rfl, hv, hb⟩
    obtain ⟨a, cap, rfl, _⟩ := (SR.owns hv).form
    exact ⟨a, m, cap, rfl, by omega, by rw [if_pos h]; omega, hb⟩
  · refine (nparts_no W A L D S B w hA hL hD (.inr h)).mono ?_
    rintro e w' ⟨rfl, hb⟩
    exact ⟨none, 0, 0, rfl, by omega, by rw [if_neg h]; rfl, hb⟩
theorem pwithin (x m : Int) (w : World) : Calls Try.prog 46 #[.int .i64 x, .int .i64 m] w fun e w' => e = .returned (.int .i64 (min (max x 0) m)) ∧ w = w' := by
  go_enter Try.func46, Try.ntmps46
  go_wp2_with fail
  go_ret
  exact ⟨rfl, rfl⟩
/-- what the reference lets be asked for -/
theorem rmay (W A L : Int) (D : ByteArray) (S : Bool) (B : Int) (w : World) (hA : (Lit.int .i64 A).wf = true) (hL : (Lit.int .i64 L).wf = true) (hD : D.size ≤ maxLen) (hW : W ≠ 3) (hB0 : 0 ≤ B) (hB1 : B ≤ 63) :
    Calls Try.prog 21 #[.agg (askA W A L D S), .int .i64 B] w fun e w' => e = .returned (.bool (decide (AskMay W A L D B))) ∧ Below w.heap.size w w' := by
  have e3 : (W == 3) = false := by rw [beq_eq_false_iff_ne]; exact hW
  have w1 := wf_le hA
  have w2 := wf_le hL
  unfold askA
  by_cases h1 : W = 1
  · subst h1
    go_enter Try.func21, Try.ntmps21
    go_wp2_with fail
    all_goals go_ret
    all_goals refine ⟨ret_bool ?_, by go_grown⟩
    all_goals try simp only [tmod32] at *
    all_goals (unfold maxLen at hD; first | (symm; rw [decide_eq_false_iff_not]; unfold AskMay askSz Inside; rw [if_pos rfl]; omega) | (rw [decide_eq_decide]; unfold AskMay askSz Inside; rw [if_pos rfl]; omega))
  · have e1 : (W == 1) = false := by rw [beq_eq_false_iff_ne]; exact h1
    go_enter Try.func21, Try.ntmps21
    go_wp2_with fail
    all_goals go_ret
    all_goals refine ⟨ret_bool ?_, by go_grown⟩
    all_goals try simp only [tmod32] at *
    all_goals first | (symm; rw [decide_eq_false_iff_not]; unfold AskMay askSz Inside; rw [if_neg h1]; omega) | (rw [decide_eq_decide]; unfold AskMay askSz Inside; rw [if_neg h1]; omega)
end Go.Proofs.Ytjpnbicnaeaacaa
