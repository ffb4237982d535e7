/-
  Items by their blocks, as plain lists: where a block's is, what is laid, what goes. Of no program.
-/
import Derived.Test.YtnjklhmnkjejfaaRow
namespace Go.Proofs.Ytnjklhmnkjejfaa
open Go.RowKit
set_option linter.unusedVariables false
set_option linter.unusedSimpArgs false

/-- an item of a block -/
structure HI where
  b : Int
  v : Int
  d : ByteArray
instance : Inhabited HI := ⟨⟨0, 0, ⟨#[]⟩⟩⟩
/-- its cells -/
def HI.cs (h : HI) : List Value := [.int .i64 h.b, .int .u64 h.v, .string h.d]
def hCells : List HI → List Value
  | [] => []
  | h :: t => .int .i64 h.b :: .int .u64 h.v :: .string h.d :: hCells t
theorem hCells_length (l : List HI) : (hCells l).length = l.length * 3 := by
  induction l with
  | nil => rfl
  | cons h t ih => simp only [hCells, List.length_cons, ih]; omega
theorem hCells_append (a b : List HI) : hCells (a ++ b) = hCells a ++ hCells b := by
  induction a with
  | nil => rfl
  | cons h t ih => simp only [hCells, List.cons_append, ih]
theorem hCells_one (l : List HI) : ∀ y ∈ hCells l, y.oneCell' = true := by
  induction l with
  | nil => intro y hy; cases hy
  | cons h t ih =>
    intro y hy
    simp only [hCells, List.mem_cons] at hy
    rcases hy with rfl | rfl | rfl | hy
    · rfl
    · rfl
    · rfl
    · exact ih y hy
theorem hCells_take (l : List HI) (k : Nat) : (hCells l).take (k * 3) = hCells (l.take k) := by
  induction l generalizing k with
  | nil => simp [hCells]
  | cons h t ih =>
    cases k with
    | zero => rfl
    | succ k => rw [show (k + 1) * 3 = k * 3 + 1 + 1 + 1 by omega]; simp only [hCells, List.take_succ_cons, ih]
theorem hCells_drop (l : List HI) (k : Nat) : (hCells l).drop (k * 3) = hCells (l.drop k) := by
  induction l generalizing k with
  | nil => simp [hCells]
  | cons h t ih =>
    cases k with
    | zero => rfl
    | succ k => rw [show (k + 1) * 3 = k * 3 + 1 + 1 + 1 by omega]; simp only [hCells, List.drop_succ_cons, ih]
theorem hCells_at (l : List HI) (k : Nat) (x : HI) (hx : l[k]? = some x) : (hCells l)[k * 3]? = some (.int .i64 x.b) ∧ (hCells l)[k * 3 + 1]? = some (.int .u64 x.v) ∧ (hCells l)[k * 3 + 2]? = some (.string x.d) := by
  induction l generalizing k with
  | nil => simp at hx
  | cons h t ih =>
    cases k with
    | zero => simp at hx; subst hx; exact ⟨rfl, rfl, rfl⟩
    | succ k =>
      have := ih k (by simpa using hx)
      rw [show (k + 1) * 3 = k * 3 + 3 by omega]
      simpa [hCells] using this
/-- the cells of the element at k, in a world -/
theorem sr_held {w : World} {a : Option Addr} {len cap : Nat} {l : List HI} (h : SR w (.slice a len cap) 3 len (hCells l)) (k : Nat) (x : HI) (hx : l[k]? = some x) :
    ∃ b off, a = some ⟨b, off, none⟩ ∧ b < w.heap.size ∧ w.cell? ⟨b, off + k * 3, none⟩ = some (.int .i64 x.b) ∧ w.cell? ⟨b, off + k * 3 + 1, none⟩ = some (.int .u64 x.v) ∧ w.cell? ⟨b, off + k * 3 + 2, none⟩ = some (.string x.d) := by
  obtain ⟨a', cap', he, h1, h2, h3, h4⟩ := h
  injection he with e1 _ e2
  subst e1 e2
  have hk := (List.getElem?_eq_some_iff.1 hx).1
  have hl : l.length = len := by rw [hCells_length] at h3; omega
  rcases h4 with h4 | ⟨b, off, rfl, hb, hc⟩
  · omega
  · obtain ⟨c0, c1, c2⟩ := hCells_at l k x hx
    exact ⟨b, off, rfl, hb, hc _ _ c0, by have := hc _ _ c1; rwa [← Nat.add_assoc] at this, by have := hc _ _ c2; rwa [← Nat.add_assoc] at this⟩
/-- the same with one block for all -/
theorem sr_block_held {w : World} {a : Option Addr} {len cap : Nat} {l : List HI} (h : SR w (.slice a len cap) 3 len (hCells l)) (h0 : 0 < len) :
    ∃ b off, a = some ⟨b, off, none⟩ ∧ b < w.heap.size ∧ l.length = len ∧ ∀ k x, l[k]? = some x → w.cell? ⟨b, off + k * 3, none⟩ = some (.int .i64 x.b) ∧ w.cell? ⟨b, off + k * 3 + 1, none⟩ = some (.int .u64 x.v) ∧ w.cell? ⟨b, off + k * 3 + 2, none⟩ = some (.string x.d) := by
  obtain ⟨a', cap', he, h1, h2, h3, h4⟩ := h
  injection he with e1 _ e2
  subst e1 e2
  have hl : l.length = len := by rw [hCells_length] at h3; omega
  rcases h4 with h4 | ⟨b, off, rfl, hb, hc⟩
  · omega
  · refine ⟨b, off, rfl, hb, hl, fun k x hx => ?_⟩
    obtain ⟨c0, c1, c2⟩ := hCells_at l k x hx
    exact ⟨hc _ _ c0, by have := hc _ _ c1; rwa [← Nat.add_assoc] at this, by have := hc _ _ c2; rwa [← Nat.add_assoc] at this⟩

/-- an item that may lie in a set -/
def Good (h : HI) : Prop := 0 ≤ h.b ∧ h.b < 64 ∧ (Lit.int .u64 h.v).wf = true ∧ h.d.size ≤ 40
/-- in order, each block once -/
structure Srt (l : List HI) : Prop where
  pw : l.Pairwise (fun x y => x.b < y.b)
  all : ∀ h ∈ l, Good h
theorem Srt.nil : Srt [] := ⟨List.Pairwise.nil, by simp⟩
theorem srt_len' : ∀ (l : List HI) (k : Int), l.Pairwise (fun x y => x.b < y.b) → (∀ h ∈ l, k ≤ h.b ∧ h.b < 64) → (l.length : Int) ≤ max 0 (64 - k)
  | [], k, _, _ => by simp; omega
  | h :: t, k, hp, ha => by
    rw [List.pairwise_cons] at hp
    have h1 := ha h (by simp)
    have := srt_len' t (h.b + 1) hp.2 (fun x hx => ⟨by have := hp.1 x hx; omega, (ha x (by simp [hx])).2⟩)
    simp only [List.length_cons]
    omega
theorem Srt.len {l : List HI} (h : Srt l) : l.length ≤ 64 := by
  have := srt_len' l 0 h.pw (fun x hx => ⟨(h.all x hx).1, (h.all x hx).2.1⟩)
  omega

/-- a block's item -/
def getL (l : List HI) (b : Int) : Option HI := l.find? (fun h => h.b == b)
/-- with an item, if there is none of its block, or an elder one -/
def layL : List HI → HI → List HI
  | [], x => [x]
  | h :: t, x => if h.b < x.b then h :: layL t x else if h.b = x.b then (if h.v < x.v then x :: t else h :: t) else x :: h :: t
/-- is it laid? -/
def laysL (l : List HI) (x : HI) : Bool := match getL l x.b with | none => true | some h => decide (h.v < x.v)
/-- without a block's item, if it is not newer -/
def dropL (l : List HI) (b v : Int) : List HI := l.filter (fun h => !(h.b == b && decide (h.v ≤ v)))
def dropsL (l : List HI) (b v : Int) : Bool := match getL l b with | none => false | some h => decide (h.v ≤ v)

/-- where a block's place is -/
inductive Split (l : List HI) (b : Int) : Prop
  | no (A B : List HI) (e : l = A ++ B) (hA : ∀ h ∈ A, h.b < b) (hB : ∀ h ∈ B, b < h.b)
  | yes (A : List HI) (x : HI) (B : List HI) (e : l = A ++ x :: B) (hx : x.b = b) (hA : ∀ h ∈ A, h.b < b) (hB : ∀ h ∈ B, b < h.b)
theorem split_of (l : List HI) (b : Int) (hp : l.Pairwise (fun x y => x.b < y.b)) : Split l b := by
  induction l with
  | nil => exact .no [] [] rfl (by simp) (by simp)
  | cons h t ih =>
    rw [List.pairwise_cons] at hp
    by_cases h1 : h.b < b
    · cases ih hp.2 with
      | no A B e hA hB => exact .no (h :: A) B (by rw [e]; rfl) (fun y hy => by rcases List.mem_cons.1 hy with rfl | hy; exact h1; exact hA y hy) hB
      | yes A x B e hx hA hB => exact .yes (h :: A) x B (by rw [e]; rfl) hx (fun y hy => by rcases List.mem_cons.1 hy with rfl | hy; exact h1; exact hA y hy) hB
    · by_cases h2 : h.b = b
      · exact .yes [] h t rfl h2 (by simp) (fun y hy => by have := hp.1 y hy; omega)
      · exact .no [] (h :: t) rfl (by simp) (fun y hy => by rcases List.mem_cons.1 hy with rfl | hy; omega; have := hp.1 y hy; omega)
theorem getL_no {A B : List HI} {b : Int} (hA : ∀ h ∈ A, h.b < b) (hB : ∀ h ∈ B, b < h.b) : getL (A ++ B) b = none := by
  unfold getL
  rw [List.find?_eq_none]
  intro x hx
  simp only [beq_iff_eq]
  rcases List.mem_append.1 hx with h | h
  · have := hA x h; omega
  · have := hB x h; omega
theorem getL_yes {A B : List HI} {x : HI} {b : Int} (hA : ∀ h ∈ A, h.b < b) (hx : x.b = b) : getL (A ++ x :: B) b = some x := by
  unfold getL
  rw [List.find?_append, List.find?_eq_none.2 (fun y hy => by have := hA y hy; simp; omega)]
  simp [hx]
theorem layL_no {A B : List HI} {x : HI} (hA : ∀ h ∈ A, h.b < x.b) (hB : ∀ h ∈ B, x.b < h.b) : layL (A ++ B) x = A ++ x :: B := by
  induction A with
  | nil =>
    cases B with
    | nil => rfl
    | cons y t =>
      have := hB y (by simp)
      simp only [List.nil_append, layL, if_neg (show ¬ y.b < x.b by omega), if_neg (show ¬ y.b = x.b by omega)]
  | cons y t ih =>
    have := hA y (by simp)
    simp only [List.cons_append, layL, if_pos this, ih (fun h hh => hA h (by simp [hh]))]
theorem layL_yes {A B : List HI} {x y : HI} (hA : ∀ h ∈ A, h.b < x.b) (hy : y.b = x.b) : layL (A ++ y :: B) x = A ++ (if y.v < x.v then x else y) :: B := by
  induction A with
  | nil =>
    simp only [List.nil_append, layL, if_neg (show ¬ y.b < x.b by omega), if_pos hy]
    split <;> rfl
  | cons z t ih =>
    have := hA z (by simp)
    simp only [List.cons_append, layL, if_pos this, ih (fun h hh => hA h (by simp [hh]))]
theorem laysL_no {A B : List HI} {x : HI} (hA : ∀ h ∈ A, h.b < x.b) (hB : ∀ h ∈ B, x.b < h.b) : laysL (A ++ B) x = true := by rw [laysL, getL_no hA hB]
theorem laysL_yes {A B : List HI} {x y : HI} (hA : ∀ h ∈ A, h.b < x.b) (hy : y.b = x.b) : laysL (A ++ y :: B) x = decide (y.v < x.v) := by rw [laysL, getL_yes hA hy]
theorem dropL_none {l : List HI} {b v : Int} (h : ∀ x ∈ l, x.b ≠ b) : dropL l b v = l := by
  unfold dropL
  rw [List.filter_eq_self]
  intro x hx
  have := h x hx
  simp [this]
theorem dropL_no {A B : List HI} {b v : Int} (hA : ∀ h ∈ A, h.b < b) (hB : ∀ h ∈ B, b < h.b) : dropL (A ++ B) b v = A ++ B :=
  dropL_none fun x hx => by
    rcases List.mem_append.1 hx with h | h
    · have := hA x h; omega
    · have := hB x h; omega
theorem dropL_yes {A B : List HI} {x : HI} {b v : Int} (hA : ∀ h ∈ A, h.b < b) (hB : ∀ h ∈ B, b < h.b) (hx : x.b = b) : dropL (A ++ x :: B) b v = if x.v ≤ v then A ++ B else A ++ x :: B := by
  have h1 : dropL A b v = A := dropL_none fun x hx => by have := hA x hx; omega
  have h2 : dropL B b v = B := dropL_none fun x hx => by have := hB x hx; omega
  unfold dropL at *
  rw [List.filter_append, List.filter_cons, h1, h2, hx]
  by_cases h : x.v ≤ v <;> simp [h]
theorem dropsL_no {A B : List HI} {b v : Int} (hA : ∀ h ∈ A, h.b < b) (hB : ∀ h ∈ B, b < h.b) : dropsL (A ++ B) b v = false := by rw [dropsL, getL_no hA hB]
theorem dropsL_yes {A B : List HI} {x : HI} {b v : Int} (hA : ∀ h ∈ A, h.b < b) (hx : x.b = b) : dropsL (A ++ x :: B) b v = decide (x.v ≤ v) := by rw [dropsL, getL_yes hA hx]
theorem srt_parts {A B : List HI} {y : HI} (hp : (A ++ y :: B).Pairwise (fun x y => x.b < y.b)) : (∀ h ∈ A, h.b < y.b) ∧ (∀ h ∈ B, y.b < h.b) ∧ A.Pairwise (fun x y => x.b < y.b) ∧ B.Pairwise (fun x y => x.b < y.b) := by
  rw [List.pairwise_append, List.pairwise_cons] at hp
  exact ⟨fun h hh => hp.2.2 h hh y (by simp), hp.2.1.1, hp.1, hp.2.1.2⟩
theorem pw_put {A B : List HI} {x : HI} (hA : ∀ h ∈ A, h.b < x.b) (hB : ∀ h ∈ B, x.b < h.b) (pA : A.Pairwise (fun x y => x.b < y.b)) (pB : B.Pairwise (fun x y => x.b < y.b)) : (A ++ x :: B).Pairwise (fun x y => x.b < y.b) := by
  rw [List.pairwise_append, List.pairwise_cons]
  refine ⟨pA, ⟨hB, pB⟩, fun a ha b hb => ?_⟩
  rcases List.mem_cons.1 hb with rfl | hb
  · exact hA a ha
  · have := hA a ha; have := hB b hb; omega
theorem Srt.lay {l : List HI} {x : HI} (h : Srt l) (hx : Good x) : Srt (layL l x) := by
  cases split_of l x.b h.pw with
  | no A B e hA hB =>
    have hp := h.pw; have ha := h.all
    rw [e] at hp ha ⊢
    rw [layL_no hA hB]
    rw [List.pairwise_append] at hp
    refine ⟨pw_put hA hB hp.1 hp.2.1, fun y hy => ?_⟩
    rcases List.mem_append.1 hy with h | h
    · exact ha y (by simp [h])
    · rcases List.mem_cons.1 h with rfl | h
      · exact hx
      · exact ha y (by simp [h])
  | yes A y B e hy hA hB =>
    have hp := h.pw; have ha := h.all
    rw [e] at hp ha ⊢
    obtain ⟨_, _, pA, pB⟩ := srt_parts hp
    rw [layL_yes hA hy]
    refine ⟨pw_put (by split <;> first | exact hA | (rw [hy]; exact hA)) (by split <;> first | exact hB | (rw [hy]; exact hB)) pA pB, fun z hz => ?_⟩
    rcases List.mem_append.1 hz with h | h
    · exact ha z (by simp [h])
    · rcases List.mem_cons.1 h with h | h
      · subst h
        split
        · exact hx
        · exact ha y (by simp)
      · exact ha z (by simp [h])
theorem Srt.filter {l : List HI} (h : Srt l) (p : HI → Bool) : Srt (l.filter p) := ⟨h.pw.filter p, fun x hx => h.all x (List.mem_filter.1 hx).1⟩
theorem Srt.drop {l : List HI} (h : Srt l) (b v : Int) : Srt (dropL l b v) := h.filter _
end Go.Proofs.Ytnjklhmnkjejfaa
