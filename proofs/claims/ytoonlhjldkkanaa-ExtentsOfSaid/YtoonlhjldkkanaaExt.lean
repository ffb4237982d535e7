/-
  Extents of items, as plain lists. Of no program.
-/
import Derived.Test.YtoonlhjldkkanaaScrub
namespace Go.Proofs.Ytoonlhjldkkanaa
open Go.RowKit
set_option linter.unusedVariables false
set_option linter.unusedSimpArgs false

/-- an extent -/
structure EX where
  f : Int
  n : Int
  lo : Int
  hi : Int
def eC (e : EX) : List Value := [.int .i64 e.f, .int .i64 e.n, .int .u64 e.lo, .int .u64 e.hi]
def eCells : List EX → List Value
  | [] => []
  | e :: t => .int .i64 e.f :: .int .i64 e.n :: .int .u64 e.lo :: .int .u64 e.hi :: eCells t
theorem eCells_length (l : List EX) : (eCells l).length = l.length * 4 := by
  induction l with
  | nil => rfl
  | cons h t ih => simp only [eCells, List.length_cons, ih]; omega
theorem eCells_append (a b : List EX) : eCells (a ++ b) = eCells a ++ eCells b := by
  induction a with
  | nil => rfl
  | cons h t ih => simp only [eCells, List.cons_append, ih]
theorem eCells_one (l : List EX) : ∀ y ∈ eCells l, y.oneCell' = true := by
  induction l with
  | nil => intro y hy; cases hy
  | cons h t ih =>
    intro y hy
    simp only [eCells, List.mem_cons] at hy
    rcases hy with rfl | rfl | rfl | rfl | hy
    · rfl
    · rfl
    · rfl
    · rfl
    · exact ih y hy
theorem eCells_at (l : List EX) (k : Nat) (x : EX) (hx : l[k]? = some x) : (eCells l)[k * 4]? = some (.int .i64 x.f) ∧ (eCells l)[k * 4 + 1]? = some (.int .i64 x.n) ∧ (eCells l)[k * 4 + 2]? = some (.int .u64 x.lo) ∧ (eCells l)[k * 4 + 3]? = some (.int .u64 x.hi) := by
  induction l generalizing k with
  | nil => simp at hx
  | cons h t ih =>
    cases k with
    | zero => simp at hx; subst hx; exact ⟨rfl, rfl, rfl, rfl⟩
    | succ k =>
      have := ih k (by simpa using hx)
      rw [show (k + 1) * 4 = k * 4 + 4 by omega]
      simpa [eCells] using this
theorem sr_ext {w : World} {a : Option Addr} {len cap : Nat} {l : List EX} (h : SR w (.slice a len cap) 4 len (eCells l)) (k : Nat) (x : EX) (hx : l[k]? = some x) :
    ∃ b off, a = some ⟨b, off, none⟩ ∧ b < w.heap.size ∧ w.cell? ⟨b, off + k * 4, none⟩ = some (.int .i64 x.f) ∧ w.cell? ⟨b, off + k * 4 + 1, none⟩ = some (.int .i64 x.n) ∧ w.cell? ⟨b, off + k * 4 + 2, none⟩ = some (.int .u64 x.lo) ∧ w.cell? ⟨b, off + k * 4 + 3, none⟩ = some (.int .u64 x.hi) := by
  obtain ⟨a', cap', he, h1, h2, h3, h4⟩ := h
  injection he with e1 _ e2
  subst e1 e2
  have hk := (List.getElem?_eq_some_iff.1 hx).1
  have hl : l.length = len := by rw [eCells_length] at h3; omega
  rcases h4 with h4 | ⟨b, off, rfl, hb, hc⟩
  · omega
  · obtain ⟨c0, c1, c2, c3⟩ := eCells_at l k x hx
    exact ⟨b, off, rfl, hb, hc _ _ c0, by have := hc _ _ c1; rwa [← Nat.add_assoc] at this, by have := hc _ _ c2; rwa [← Nat.add_assoc] at this, by have := hc _ _ c3; rwa [← Nat.add_assoc] at this⟩
theorem eCells_set (A : List EX) (e : EX) : (∀ n, (eCells (A ++ [e])).set (A.length * 4 + 1) (.int .i64 n) = eCells (A ++ [⟨e.f, n, e.lo, e.hi⟩])) ∧ (∀ n, (eCells (A ++ [e])).set (A.length * 4 + 2) (.int .u64 n) = eCells (A ++ [⟨e.f, e.n, n, e.hi⟩])) ∧
    (∀ n, (eCells (A ++ [e])).set (A.length * 4 + 3) (.int .u64 n) = eCells (A ++ [⟨e.f, e.n, e.lo, n⟩])) := by
  have h := eCells_length A
  refine ⟨fun n => ?_, fun n => ?_, fun n => ?_⟩
  all_goals
    rw [eCells_append, eCells_append, List.set_append_right _ _ (by omega), h]
    simp [eCells]
/-- a new one -/
def newE (h : HI) : EX := ⟨h.b, 1, h.v, h.v⟩
/-- one item more -/
def grow (e : EX) (h : HI) : EX := ⟨e.f, e.n + 1, min e.lo h.v, max e.hi h.v⟩
def stepE (acc : List EX) (h : HI) : List EX := match acc.getLast? with
  | none => [newE h]
  | some e => if e.f + e.n = h.b then acc.dropLast ++ [grow e h] else acc ++ [newE h]
def extL (l : List HI) : List EX := l.foldl stepE []
theorem step_nil (h : HI) : stepE [] h = [newE h] := rfl
theorem step_join {A : List EX} {e : EX} {h : HI} (q : e.f + e.n = h.b) : stepE (A ++ [e]) h = A ++ [grow e h] := by simp [stepE, q]
theorem step_new {A : List EX} {e : EX} {h : HI} (q : ¬ e.f + e.n = h.b) : stepE (A ++ [e]) h = A ++ [e] ++ [newE h] := by simp [stepE, q]
theorem acc_cases (acc : List EX) : acc = [] ∨ ∃ A e, acc = A ++ [e] := by
  rcases List.eq_nil_or_concat acc with h | ⟨A, e, h⟩
  · exact .inl h
  · exact .inr ⟨A, e, by rw [h, List.concat_eq_append]⟩
theorem stepE_app {A B : List EX} {h : HI} (hB : B ≠ []) : stepE (A ++ B) h = A ++ stepE B h := by
  rcases acc_cases B with q | ⟨C, e, rfl⟩
  · exact absurd q hB
  · by_cases r : e.f + e.n = h.b
    · rw [step_join r, ← List.append_assoc, step_join r, List.append_assoc]
    · rw [step_new r, ← List.append_assoc, step_new r]
      simp only [List.append_assoc]
theorem step_ne (B : List EX) (h : HI) : stepE B h ≠ [] := by
  rcases acc_cases B with rfl | ⟨C, e, rfl⟩
  · simp [step_nil]
  · by_cases r : e.f + e.n = h.b
    · rw [step_join r]; simp
    · rw [step_new r]; simp
theorem fold_app {l : List HI} : ∀ {A B : List EX}, B ≠ [] → l.foldl stepE (A ++ B) = A ++ l.foldl stepE B := by
  induction l with
  | nil => intro A B _; rfl
  | cons h t ih =>
    intro A B hB
    rw [List.foldl_cons, List.foldl_cons, stepE_app hB, ih (step_ne B h)]
/-- an item that begins a new extent -/
def NM (acc : List EX) (h : HI) : Prop := ∀ A e, acc = A ++ [e] → ¬ e.f + e.n = h.b
theorem step_nm {acc : List EX} {h : HI} (q : NM acc h) : stepE acc h = acc ++ [newE h] := by
  rcases acc_cases acc with rfl | ⟨A, e, rfl⟩
  · rfl
  · exact step_new (q A e rfl)
theorem fold_nm {acc : List EX} {h : HI} {t : List HI} (q : NM acc h) : (h :: t).foldl stepE acc = acc ++ extL (h :: t) := by
  rw [List.foldl_cons, step_nm q, fold_app (by simp)]
  rfl
theorem ext_take {l : List HI} {j : Nat} {x : HI} (h : l[j]? = some x) : extL (l.take (j + 1)) = stepE (extL (l.take j)) x := by
  rw [take_next h, extL, List.foldl_append]; rfl
/-- all below 64 -/
def OkE (l : List EX) : Prop := ∀ e ∈ l, 0 ≤ e.f ∧ 1 ≤ e.n ∧ e.f + e.n ≤ 64
theorem ok_step {acc : List EX} {h : HI} (ho : OkE acc) (hg : Good h) : OkE (stepE acc h) := by
  have hn : 0 ≤ (newE h).f ∧ 1 ≤ (newE h).n ∧ (newE h).f + (newE h).n ≤ 64 := ⟨hg.1, Int.le_refl _, by have := hg.2.1; show h.b + 1 ≤ 64; omega⟩
  rcases acc_cases acc with rfl | ⟨A, e, rfl⟩
  · intro x hx
    rw [step_nil, List.mem_singleton] at hx
    rw [hx]; exact hn
  · by_cases r : e.f + e.n = h.b
    · rw [step_join r]
      intro x hx
      rcases List.mem_append.1 hx with q | q
      · exact ho x (by simp [q])
      · have := ho e (by simp)
        rw [List.mem_singleton.1 q]
        exact ⟨this.1, by show 1 ≤ e.n + 1; omega, by show e.f + (e.n + 1) ≤ 64; have := hg.2.1; omega⟩
    · rw [step_new r]
      intro x hx
      rcases List.mem_append.1 hx with q | q
      · exact ho x q
      · rw [List.mem_singleton.1 q]; exact hn
theorem ok_fold {l : List HI} : ∀ {acc : List EX}, OkE acc → (∀ x ∈ l, Good x) → OkE (l.foldl stepE acc) := by
  induction l with
  | nil => intro acc h _; exact h
  | cons x t ih => intro acc h hg; exact ih (ok_step h (hg x (by simp))) (fun y hy => hg y (by simp [hy]))
theorem ok_ext {l : List HI} (h : ∀ x ∈ l, Good x) : OkE (extL l) := ok_fold (by intro e he; cases he) h
theorem step_len (acc : List EX) (h : HI) : (stepE acc h).length ≤ acc.length + 1 := by
  rcases acc_cases acc with rfl | ⟨A, e, rfl⟩
  · simp [step_nil]
  · by_cases r : e.f + e.n = h.b
    · rw [step_join r]; simp
    · rw [step_new r]; simp
theorem ext_len (l : List HI) : (extL l).length ≤ l.length := by
  have key : ∀ (l : List HI) (acc : List EX), (l.foldl stepE acc).length ≤ acc.length + l.length := by
    intro l
    induction l with
    | nil => intro acc; simp
    | cons x t ih =>
      intro acc
      have := step_len acc x
      have := ih (stepE acc x)
      simp only [List.foldl_cons, List.length_cons]
      omega
  have := key l []
  simpa [extL] using this
/-- how many blocks they are together -/
def sumE : List EX → Int
  | [] => 0
  | e :: t => max e.n 0 + sumE t
theorem sumE_app (a b : List EX) : sumE (a ++ b) = sumE a + sumE b := by
  induction a with
  | nil => simp [sumE]
  | cons e t ih => simp only [List.cons_append, sumE, ih]; omega
theorem sum_step {acc : List EX} {h : HI} (ho : OkE acc) : sumE (stepE acc h) = sumE acc + 1 := by
  rcases acc_cases acc with rfl | ⟨A, e, rfl⟩
  · rw [step_nil]; simp only [sumE, newE]; omega
  · have := ho e (by simp)
    by_cases r : e.f + e.n = h.b
    · rw [step_join r, sumE_app, sumE_app]
      simp only [sumE, grow]
      omega
    · rw [step_new r, sumE_app]
      simp only [sumE, newE]
      omega
theorem sum_fold {l : List HI} : ∀ {acc : List EX}, OkE acc → (∀ x ∈ l, Good x) → sumE (l.foldl stepE acc) = sumE acc + l.length := by
  induction l with
  | nil => intro acc _ _; simp
  | cons x t ih =>
    intro acc h hg
    rw [List.foldl_cons, ih (ok_step h (hg x (by simp))) (fun y hy => hg y (by simp [hy])), sum_step h]
    simp only [List.length_cons]
    omega
theorem sum_ext {l : List HI} (h : ∀ x ∈ l, Good x) : sumE (extL l) = l.length := by
  have := sum_fold (l := l) (acc := []) (by intro e he; cases he) h
  simpa [sumE, extL] using this
theorem sum_take {l : List EX} {j : Nat} {e : EX} (h : l[j]? = some e) : sumE (l.take (j + 1)) = sumE (l.take j) + max e.n 0 := by
  have hj := (List.getElem?_eq_some_iff.1 h).1
  rw [List.getElem?_eq_getElem hj] at h
  rw [List.take_succ_eq_append_getElem hj, Option.some.inj h, sumE_app]
  simp [sumE]
theorem sum_bound {l : List EX} (h : OkE l) : 0 ≤ sumE l ∧ sumE l ≤ 64 * l.length := by
  induction l with
  | nil => simp [sumE]
  | cons e t ih =>
    have h1 := h e (by simp)
    have h2 := ih (fun x hx => h x (by simp [hx]))
    simp only [sumE, List.length_cons]
    omega
end Go.Proofs.Ytoonlhjldkkanaa
