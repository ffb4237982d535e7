/-
  Several texts, laid together.
-/
import Derived.Test.YtadejhlljdcocaaMg17
import Derived.Test.YtadejhlljdcocaaMg2
import Derived.Test.YtadejhlljdcocaaMg18
import Derived.Test.YtadejhlljdcocaaMg16
/-
  slices.SortStableFunc of few items (three cells each): insertion, as a function of what compares. The lists first.
-/


namespace Go.Proofs.Ytadejhlljdcocaa
open Go.RowKit
set_option linter.unusedVariables false
set_option linter.unusedSimpArgs false

section
variable {α : Type} (d : α) (cf : α → α → Int)
def swpG (l : List α) (j : Nat) : List α := (l.set (j + 1) (l.getD j d)).set j (l.getD (j + 1) d)
theorem swpG_len (l : List α) (j : Nat) : (swpG d l j).length = l.length := by simp [swpG]
def bubG : Nat → List α → List α
  | 0, l => l
  | j + 1, l => if cf (l.getD (j + 1) d) (l.getD j d) < 0 then bubG j (swpG d l j) else l
def insG (l : List α) : Nat → List α
  | 0 => l
  | k + 1 => bubG d cf k (insG l k)
theorem bubG_len : ∀ (j : Nat) (l : List α), (bubG d cf j l).length = l.length
  | 0, l => rfl
  | j + 1, l => by
    simp only [bubG]
    split
    · rw [bubG_len j, swpG_len]
    · rfl
theorem insG_len (l : List α) (k : Nat) : (insG d cf l k).length = l.length := by
  induction k with
  | zero => rfl
  | succ k ih => rw [insG, bubG_len, ih]
theorem swpG_cut (l : List α) (j : Nat) (hj : j + 1 < l.length) : l = l.take j ++ l.getD j d :: l.getD (j + 1) d :: l.drop (j + 2) ∧ swpG d l j = l.take j ++ l.getD (j + 1) d :: l.getD j d :: l.drop (j + 2) := by
  unfold swpG
  have h1 : l.getD j d = l[j] := by simp [List.getD, show j < l.length by omega]
  have h2 : l.getD (j + 1) d = l[j + 1] := by simp [List.getD, hj]
  rw [h1, h2]
  have e : l = l.take j ++ l[j] :: l[j + 1] :: l.drop (j + 2) := by
    conv => lhs; rw [← List.take_append_drop j l, List.drop_eq_getElem_cons (by omega), List.drop_eq_getElem_cons (by omega)]
  refine ⟨e, ?_⟩
  generalize l[j] = x at *
  generalize l[j + 1] = y at *
  have hl : (l.take j).length = j := by simp; omega
  generalize l.take j = p at *
  generalize l.drop (j + 2) = q at *
  subst hl
  rw [e, List.set_append_right _ _ (by omega), List.set_append_right _ _ (by omega)]
  simp
theorem swpG_perm (l : List α) (j : Nat) (hj : j + 1 < l.length) : (swpG d l j).Perm l := by
  obtain ⟨e1, e2⟩ := swpG_cut d l j hj
  rw [e2]
  conv => rhs; rw [e1]
  exact List.Perm.append_left _ (List.Perm.swap _ _ _)
theorem bubG_perm : ∀ (j : Nat) (l : List α), j < l.length → (bubG d cf j l).Perm l
  | 0, l, _ => List.Perm.refl _
  | j + 1, l, h => by
    simp only [bubG]
    split
    · exact (bubG_perm j _ (by rw [swpG_len]; omega)).trans (swpG_perm d l j h)
    · exact List.Perm.refl _
theorem insG_perm (l : List α) (k : Nat) (hk : k ≤ l.length) : (insG d cf l k).Perm l := by
  induction k with
  | zero => exact List.Perm.refl _
  | succ k ih =>
    rw [insG]
    exact (bubG_perm d cf k _ (by rw [insG_len]; omega)).trans (ih (by omega))
theorem swpG_get (l : List α) (j i : Nat) (hj : j + 1 < l.length) : (swpG d l j).getD i d = if i = j then l.getD (j + 1) d else if i = j + 1 then l.getD j d else l.getD i d := by
  unfold swpG
  simp only [List.getD_eq_getElem?_getD, List.getElem?_set]
  by_cases h1 : i = j
  · subst h1
    simp [show i < l.length by omega]
  · by_cases h2 : i = j + 1
    · subst h2
      simp [hj]
    · simp [h1, h2, Ne.symm h1, Ne.symm h2]
variable {cf} {le : α → α → Prop} (h1 : ∀ x y, cf x y < 0 → le x y) (h2 : ∀ x y, ¬ cf x y < 0 → le y x) (tr : ∀ x y z, le x y → le y z → le x z)
include h1 h2 tr
theorem bubG_ord (k : Nat) : ∀ (j : Nat) (l : List α), j ≤ k → k < l.length → (∀ a b, a < b → b ≤ k → b ≠ j → le (l.getD a d) (l.getD b d)) → ∀ a b, a < b → b ≤ k → le ((bubG d cf j l).getD a d) ((bubG d cf j l).getD b d)
  | 0, l, _, _, h, a, b, hab, hb => h a b hab hb (by omega)
  | j + 1, l, hj, hk, h, a, b, hab, hb => by
    simp only [bubG]
    split
    · next hc =>
      refine bubG_ord k j (swpG d l j) (by omega) (by rw [swpG_len]; exact hk) (fun a b hab hb hbj => ?_) a b hab hb
      have hl := h1 _ _ hc
      rw [swpG_get d l j a (by omega), swpG_get d l j b (by omega), if_neg hbj]
      by_cases e1 : b = j + 1
      · subst e1
        rw [if_pos rfl]
        by_cases e2 : a = j
        · rw [if_pos e2]; exact hl
        · rw [if_neg e2, if_neg (by omega)]
          exact h a j (by omega) (by omega) (by omega)
      · rw [if_neg e1]
        by_cases e2 : a = j
        · rw [if_pos e2]
          exact h (j + 1) b (by omega) hb e1
        · rw [if_neg e2]
          by_cases e3 : a = j + 1
          · rw [if_pos e3]
            exact h j b (by omega) hb e1
          · rw [if_neg e3]
            exact h a b hab hb e1
    · next hc =>
      have hl := h2 _ _ hc
      by_cases e1 : b = j + 1
      · subst e1
        by_cases e2 : a = j
        · rw [e2]; exact hl
        · exact tr _ _ _ (h a j (by omega) (by omega) (by omega)) hl
      · exact h a b hab hb e1
theorem insG_ord (l : List α) : ∀ k, k ≤ l.length → ∀ a b, a < b → b < k → le ((insG d cf l k).getD a d) ((insG d cf l k).getD b d)
  | 0, _, a, b, _, h => by omega
  | k + 1, hk, a, b, hab, hb => by
    rw [insG]
    exact bubG_ord d h1 h2 tr k k (insG d cf l k) (Nat.le_refl _) (by rw [insG_len]; omega) (fun a b hab hb hne => insG_ord l k (by omega) a b hab (by omega)) a b hab (by omega)
end

/-- by the version, then by the block -/
def cmpV (x y : HI) : Int := if cmpI x.v y.v ≠ 0 then cmpI x.v y.v else cmpI x.b y.b
def leV (x y : HI) : Prop := x.v < y.v ∨ x.v = y.v ∧ x.b ≤ y.b
theorem cmpV_lt (x y : HI) (h : cmpV x y < 0) : leV x y := by
  unfold cmpV cmpI at h
  unfold leV
  repeat' split at h
  all_goals omega
theorem cmpV_ge (x y : HI) (h : ¬ cmpV x y < 0) : leV y x := by
  unfold cmpV cmpI at h
  unfold leV
  repeat' split at h
  all_goals omega
theorem leV_trans (x y z : HI) (h : leV x y) (k : leV y z) : leV x z := by
  unfold leV at *
  omega
abbrev zeroH : HI := ⟨0, 0, ⟨#[]⟩⟩
def riseL (l : List HI) : List HI := insG zeroH cmpV l l.length
theorem rise_perm (l : List HI) : (riseL l).Perm l := insG_perm _ _ l l.length (Nat.le_refl _)
theorem rise_len (l : List HI) : (riseL l).length = l.length := insG_len _ _ _ _
theorem rise_ord {l : List HI} {a b : Nat} {x y : HI} (hab : a < b) (hx : (riseL l)[a]? = some x) (hy : (riseL l)[b]? = some y) : leV x y := by
  have hb : b < l.length := by have := (List.getElem?_eq_some_iff.1 hy).1; rwa [rise_len] at this
  have h := insG_ord zeroH cmpV_lt cmpV_ge leV_trans l l.length (Nat.le_refl _) a b hab hb
  change leV ((riseL l).getD a _) ((riseL l).getD b _) at h
  rw [List.getD_eq_getElem?_getD, List.getD_eq_getElem?_getD, hx, hy] at h
  exact h
/-- no two of a list have one block -/
theorem srt_one {l : List HI} (h : Srt l) {x y : HI} (hx : x ∈ l) (hy : y ∈ l) (hb : x.b = y.b) : x = y := by
  have h1 := get_mem h hx
  have h2 := get_mem h hy
  rw [hb, h2] at h1
  exact (Option.some.inj h1).symm
theorem mem_putAll {xs : List HI} {y : HI} : ∀ {l : List HI}, y ∈ putAll l xs → y ∈ l ∨ y ∈ xs := by
  induction xs with
  | nil => intro l h; exact .inl h
  | cons x t ih =>
    intro l h
    rcases ih (l := putB l x) h with q | q
    · unfold putB putL at q
      split at q
      · rcases mem_lay q with r | r
        · exact .inl r
        · exact .inr (by simp [r])
      · exact .inl q
    · exact .inr (by simp [q])
/-- two lists in order with the same items -/
theorem srt_ext {l m : List HI} (hl : Srt l) (hm : Srt m) (h : ∀ x, x ∈ l ↔ x ∈ m) : l = m := by
  have hb : l.map (·.b) = m.map (·.b) := by
    refine sorted_ext _ _ (List.pairwise_map.2 hl.pw) (List.pairwise_map.2 hm.pw) fun z => ?_
    simp only [List.mem_map]
    exact ⟨fun ⟨x, hx, e⟩ => ⟨x, (h x).1 hx, e⟩, fun ⟨x, hx, e⟩ => ⟨x, (h x).2 hx, e⟩⟩
  have hlen : l.length = m.length := by simpa using congrArg List.length hb
  refine List.ext_getElem hlen fun i h1 h2 => ?_
  refine srt_one hm ((h _).1 (List.getElem_mem h1)) (List.getElem_mem h2) ?_
  have := congrArg (fun q => q[i]?) hb
  simpa [h1, h2] using this
theorem of_perm {l r : List HI} (h : Srt l) (hm : AllM l) (hp : r.Perm l) : putAll [] r = l := by
  have hok : ∀ x ∈ r, Ok x := fun x hx => h.ok x (hp.mem_iff.1 hx)
  refine srt_ext (srt_putAll Srt.nil hok) h fun x => ⟨fun hx => ?_, fun hx => ?_⟩
  · rcases mem_putAll hx with q | q
    · cases q
    · exact hp.mem_iff.1 q
  · obtain ⟨y, hy, hyb⟩ := merged_has hok (hp.mem_iff.2 hx) (h.all x hx) (hm x hx)
    have hyl : y ∈ l := by
      rcases mem_putAll hy with q | q
      · cases q
      · exact hp.mem_iff.1 q
    rw [← srt_one h hyl hx hyb]
    exact hy
/-- one behind the other: the version rises, or the block -/
theorem rise_next {l : List HI} (h : Srt l) {i : Nat} {x y : HI} (hx : (riseL l)[i]? = some x) (hy : (riseL l)[i + 1]? = some y) : x.v < y.v ∨ x.v = y.v ∧ x.b < y.b := by
  have hle := rise_ord (Nat.lt_succ_self i) hx hy
  have hnd : (riseL l).Nodup := (rise_perm l).nodup_iff.2 (List.Pairwise.imp (fun {a b} (q : a.b < b.b) (e : a = b) => by subst e; omega) h.pw)
  rcases hle with q | ⟨q1, q2⟩
  · exact .inl q
  · refine .inr ⟨q1, ?_⟩
    rcases Int.lt_or_eq_of_le q2 with r | r
    · exact r
    · have e := srt_one h ((rise_perm l).mem_iff.1 (List.mem_of_getElem? hx)) ((rise_perm l).mem_iff.1 (List.mem_of_getElem? hy)) r
      subst e
      obtain ⟨p1, e1⟩ := List.getElem?_eq_some_iff.1 hx
      obtain ⟨p2, e2⟩ := List.getElem?_eq_some_iff.1 hy
      have := (List.getElem_inj hnd).1 (e1.trans e2.symm)
      omega
/-- the place of the eldest -/
def IsEld (l : List HI) (k : Nat) : Prop := ∃ y, l[k]? = some y ∧ ∀ z ∈ l, leV y z
theorem eld_first {l : List HI} (h : Srt l) {k : Nat} (hk : IsEld l k) : (riseL l)[0]? = l[k]? := by
  obtain ⟨y, hy, hle⟩ := hk
  have hym := List.mem_of_getElem? hy
  obtain ⟨m, hm, e⟩ := List.getElem_of_mem ((rise_perm l).mem_iff.2 hym)
  have hm' : (riseL l)[m]? = some y := by rw [List.getElem?_eq_getElem hm, e]
  obtain ⟨z, hz⟩ : ∃ z, (riseL l)[0]? = some z := ⟨_, List.getElem?_eq_getElem (by omega)⟩
  have hzm := (rise_perm l).mem_iff.1 (List.mem_of_getElem? hz)
  rw [hz, hy]
  rcases Nat.eq_zero_or_pos m with q | q
  · subst q
    rw [hz] at hm'
    exact hm'
  · have h1 := rise_ord q hz hm'
    have h2 := hle z hzm
    unfold leV at h1 h2
    rw [srt_one h hzm hym (by omega)]
end Go.Proofs.Ytadejhlljdcocaa
/-
  Extents of items, as plain lists. Of no program.
-/

namespace Go.Proofs.Ytadejhlljdcocaa
open Go.RowKit
set_option linter.unusedVariables false
set_option linter.unusedSimpArgs false

/-- an extent -/
structure EX where
  f : Int
  n : Int
  lo : Int
  hi : Int
def eC (e : EX) : List Value := [.int .i64 e.f, .int .i64 e.n, .int .u64 e.lo, .int .u64 e.hi]
def eCells : List EX → List Value
  | [] => []
  | e :: t => .int .i64 e.f :: .int .i64 e.n :: .int .u64 e.lo :: .int .u64 e.hi :: eCells t
theorem eCells_length (l : List EX) : (eCells l).length = l.length * 4 := by
  induction l with
  | nil => rfl
  | cons h t ih => simp only [eCells, List.length_cons, ih]; omega
theorem eCells_append (a b : List EX) : eCells (a ++ b) = eCells a ++ eCells b := by
  induction a with
  | nil => rfl
  | cons h t ih => simp only [eCells, List.cons_append, ih]
theorem eCells_one (l : List EX) : ∀ y ∈ eCells l, y.oneCell' = true := by
  induction l with
  | nil => intro y hy; cases hy
  | cons h t ih =>
    intro y hy
    simp only [eCells, List.mem_cons] at hy
    rcases hy with rfl | rfl | rfl | rfl | hy
    · rfl
    · rfl
    · rfl
    · rfl
    · exact ih y hy
theorem eCells_at (l : List EX) (k : Nat) (x : EX) (hx : l[k]? = some x) : (eCells l)[k * 4]? = some (.int .i64 x.f) ∧ (eCells l)[k * 4 + 1]? = some (.int .i64 x.n) ∧ (eCells l)[k * 4 + 2]? = some (.int .u64 x.lo) ∧ (eCells l)[k * 4 + 3]? = some (.int .u64 x.hi) := by
  induction l generalizing k with
  | nil => simp at hx
  | cons h t ih =>
    cases k with
    | zero => simp at hx; subst hx; exact ⟨rfl, rfl, rfl, rfl⟩
    | succ k =>
      have := ih k (by simpa using hx)
      rw [show (k + 1) * 4 = k * 4 + 4 by omega]
      simpa [eCells] using this
theorem sr_ext {w : World} {a : Option Addr} {len cap : Nat} {l : List EX} (h : SR w (.slice a len cap) 4 len (eCells l)) (k : Nat) (x : EX) (hx : l[k]? = some x) :
    ∃ b off, a = some ⟨b, off, none⟩ ∧ b < w.heap.size ∧ w.cell? ⟨b, off + k * 4, none⟩ = some (.int .i64 x.f) ∧ w.cell? ⟨b, off + k * 4 + 1, none⟩ = some (.int .i64 x.n) ∧ w.cell? ⟨b, off + k * 4 + 2, none⟩ = some (.int .u64 x.lo) ∧ w.cell? ⟨b, off + k * 4 + 3, none⟩ = some (.int .u64 x.hi) := by
  obtain ⟨a', cap', he, h1, h2, h3, h4⟩ := h
  injection he with e1 _ e2
  subst e1 e2
  have hk := (List.getElem?_eq_some_iff.1 hx).1
  have hl : l.length = len := by rw [eCells_length] at h3; omega
  rcases h4 with h4 | ⟨b, off, rfl, hb, hc⟩
  · omega
  · obtain ⟨c0, c1, c2, c3⟩ := eCells_at l k x hx
    exact ⟨b, off, rfl, hb, hc _ _ c0, by have := hc _ _ c1; rwa [← Nat.add_assoc] at this, by have := hc _ _ c2; rwa [← Nat.add_assoc] at this, by have := hc _ _ c3; rwa [← Nat.add_assoc] at this⟩
theorem eCells_set (A : List EX) (e : EX) : (∀ n, (eCells (A ++ [e])).set (A.length * 4 + 1) (.int .i64 n) = eCells (A ++ [⟨e.f, n, e.lo, e.hi⟩])) ∧ (∀ n, (eCells (A ++ [e])).set (A.length * 4 + 2) (.int .u64 n) = eCells (A ++ [⟨e.f, e.n, n, e.hi⟩])) ∧
    (∀ n, (eCells (A ++ [e])).set (A.length * 4 + 3) (.int .u64 n) = eCells (A ++ [⟨e.f, e.n, e.lo, n⟩])) := by
  have h := eCells_length A
  refine ⟨fun n => ?_, fun n => ?_, fun n => ?_⟩
  all_goals
    rw [eCells_append, eCells_append, List.set_append_right _ _ (by omega), h]
    simp [eCells]
/-- a new one -/
def newE (h : HI) : EX := ⟨h.b, 1, h.v, h.v⟩
/-- one item more -/
def grow (e : EX) (h : HI) : EX := ⟨e.f, e.n + 1, min e.lo h.v, max e.hi h.v⟩
def stepE (acc : List EX) (h : HI) : List EX := match acc.getLast? with
  | none => [newE h]
  | some e => if e.f + e.n = h.b then acc.dropLast ++ [grow e h] else acc ++ [newE h]
def extL (l : List HI) : List EX := l.foldl stepE []
theorem step_nil (h : HI) : stepE [] h = [newE h] := rfl
theorem step_join {A : List EX} {e : EX} {h : HI} (q : e.f + e.n = h.b) : stepE (A ++ [e]) h = A ++ [grow e h] := by simp [stepE, q]
theorem step_new {A : List EX} {e : EX} {h : HI} (q : ¬ e.f + e.n = h.b) : stepE (A ++ [e]) h = A ++ [e] ++ [newE h] := by simp [stepE, q]
theorem acc_cases (acc : List EX) : acc = [] ∨ ∃ A e, acc = A ++ [e] := by
  rcases List.eq_nil_or_concat acc with h | ⟨A, e, h⟩
  · exact .inl h
  · exact .inr ⟨A, e, by rw [h, List.concat_eq_append]⟩
theorem stepE_app {A B : List EX} {h : HI} (hB : B ≠ []) : stepE (A ++ B) h = A ++ stepE B h := by
  rcases acc_cases B with q | ⟨C, e, rfl⟩
  · exact absurd q hB
  · by_cases r : e.f + e.n = h.b
    · rw [step_join r, ← List.append_assoc, step_join r, List.append_assoc]
    · rw [step_new r, ← List.append_assoc, step_new r]
      simp only [List.append_assoc]
theorem step_ne (B : List EX) (h : HI) : stepE B h ≠ [] := by
  rcases acc_cases B with rfl | ⟨C, e, rfl⟩
  · simp [step_nil]
  · by_cases r : e.f + e.n = h.b
    · rw [step_join r]; simp
    · rw [step_new r]; simp
theorem fold_app {l : List HI} : ∀ {A B : List EX}, B ≠ [] → l.foldl stepE (A ++ B) = A ++ l.foldl stepE B := by
  induction l with
  | nil => intro A B _; rfl
  | cons h t ih =>
    intro A B hB
    rw [List.foldl_cons, List.foldl_cons, stepE_app hB, ih (step_ne B h)]
/-- an item that begins a new extent -/
def NM (acc : List EX) (h : HI) : Prop := ∀ A e, acc = A ++ [e] → ¬ e.f + e.n = h.b
theorem step_nm {acc : List EX} {h : HI} (q : NM acc h) : stepE acc h = acc ++ [newE h] := by
  rcases acc_cases acc with rfl | ⟨A, e, rfl⟩
  · rfl
  · exact step_new (q A e rfl)
theorem fold_nm {acc : List EX} {h : HI} {t : List HI} (q : NM acc h) : (h :: t).foldl stepE acc = acc ++ extL (h :: t) := by
  rw [List.foldl_cons, step_nm q, fold_app (by simp)]
  rfl
theorem ext_take {l : List HI} {j : Nat} {x : HI} (h : l[j]? = some x) : extL (l.take (j + 1)) = stepE (extL (l.take j)) x := by
  rw [take_next h, extL, List.foldl_append]; rfl
/-- all below 64 -/
def OkE (l : List EX) : Prop := ∀ e ∈ l, 0 ≤ e.f ∧ 1 ≤ e.n ∧ e.f + e.n ≤ 64
theorem ok_step {acc : List EX} {h : HI} (ho : OkE acc) (hg : Good h) : OkE (stepE acc h) := by
  have hn : 0 ≤ (newE h).f ∧ 1 ≤ (newE h).n ∧ (newE h).f + (newE h).n ≤ 64 := ⟨hg.1, Int.le_refl _, by have := hg.2.1; show h.b + 1 ≤ 64; omega⟩
  rcases acc_cases acc with rfl | ⟨A, e, rfl⟩
  · intro x hx
    rw [step_nil, List.mem_singleton] at hx
    rw [hx]; exact hn
  · by_cases r : e.f + e.n = h.b
    · rw [step_join r]
      intro x hx
      rcases List.mem_append.1 hx with q | q
      · exact ho x (by simp [q])
      · have := ho e (by simp)
        rw [List.mem_singleton.1 q]
        exact ⟨this.1, by show 1 ≤ e.n + 1; omega, by show e.f + (e.n + 1) ≤ 64; have := hg.2.1; omega⟩
    · rw [step_new r]
      intro x hx
      rcases List.mem_append.1 hx with q | q
      · exact ho x q
      · rw [List.mem_singleton.1 q]; exact hn
theorem ok_fold {l : List HI} : ∀ {acc : List EX}, OkE acc → (∀ x ∈ l, Good x) → OkE (l.foldl stepE acc) := by
  induction l with
  | nil => intro acc h _; exact h
  | cons x t ih => intro acc h hg; exact ih (ok_step h (hg x (by simp))) (fun y hy => hg y (by simp [hy]))
theorem ok_ext {l : List HI} (h : ∀ x ∈ l, Good x) : OkE (extL l) := ok_fold (by intro e he; cases he) h
theorem step_len (acc : List EX) (h : HI) : (stepE acc h).length ≤ acc.length + 1 := by
  rcases acc_cases acc with rfl | ⟨A, e, rfl⟩
  · simp [step_nil]
  · by_cases r : e.f + e.n = h.b
    · rw [step_join r]; simp
    · rw [step_new r]; simp
theorem ext_len (l : List HI) : (extL l).length ≤ l.length := by
  have key : ∀ (l : List HI) (acc : List EX), (l.foldl stepE acc).length ≤ acc.length + l.length := by
    intro l
    induction l with
    | nil => intro acc; simp
    | cons x t ih =>
      intro acc
      have := step_len acc x
      have := ih (stepE acc x)
      simp only [List.foldl_cons, List.length_cons]
      omega
  have := key l []
  simpa [extL] using this
/-- how many blocks they are together -/
def sumE : List EX → Int
  | [] => 0
  | e :: t => max e.n 0 + sumE t
theorem sumE_app (a b : List EX) : sumE (a ++ b) = sumE a + sumE b := by
  induction a with
  | nil => simp [sumE]
  | cons e t ih => simp only [List.cons_append, sumE, ih]; omega
theorem sum_step {acc : List EX} {h : HI} (ho : OkE acc) : sumE (stepE acc h) = sumE acc + 1 := by
  rcases acc_cases acc with rfl | ⟨A, e, rfl⟩
  · rw [step_nil]; simp only [sumE, newE]; omega
  · have := ho e (by simp)
    by_cases r : e.f + e.n = h.b
    · rw [step_join r, sumE_app, sumE_app]
      simp only [sumE, grow]
      omega
    · rw [step_new r, sumE_app]
      simp only [sumE, newE]
      omega
theorem sum_fold {l : List HI} : ∀ {acc : List EX}, OkE acc → (∀ x ∈ l, Good x) → sumE (l.foldl stepE acc) = sumE acc + l.length := by
  induction l with
  | nil => intro acc _ _; simp
  | cons x t ih =>
    intro acc h hg
    rw [List.foldl_cons, ih (ok_step h (hg x (by simp))) (fun y hy => hg y (by simp [hy])), sum_step h]
    simp only [List.length_cons]
    omega
theorem sum_ext {l : List HI} (h : ∀ x ∈ l, Good x) : sumE (extL l) = l.length := by
  have := sum_fold (l := l) (acc := []) (by intro e he; cases he) h
  simpa [sumE, extL] using this
theorem sum_take {l : List EX} {j : Nat} {e : EX} (h : l[j]? = some e) : sumE (l.take (j + 1)) = sumE (l.take j) + max e.n 0 := by
  have hj := (List.getElem?_eq_some_iff.1 h).1
  rw [List.getElem?_eq_getElem hj] at h
  rw [List.take_succ_eq_append_getElem hj, Option.some.inj h, sumE_app]
  simp [sumE]
theorem sum_bound {l : List EX} (h : OkE l) : 0 ≤ sumE l ∧ sumE l ≤ 64 * l.length := by
  induction l with
  | nil => simp [sumE]
  | cons e t ih =>
    have h1 := h e (by simp)
    have h2 := ih (fun x hx => h x (by simp [hx]))
    simp only [sumE, List.length_cons]
    omega
end Go.Proofs.Ytadejhlljdcocaa
/-
  extent: Of, Blocks, and what they are folded with.
-/



namespace Go.Proofs.Ytadejhlljdcocaa
open Go.RowKit
set_option linter.unusedVariables false
set_option linter.unusedSimpArgs false

theorem info_ext : (Try.prog.info? 130).map (fun i => (i.zero, i.size, i.bytes)) = some (some (.agg #[.int .i64 0, .int .i64 0, .int .u64 0, .int .u64 0]), 4, 32) := by kernel_rfl
theorem own_cel {w : World} {N g n c size k : Nat} {e : TypeId} {xs : List Value} (h : w.ownsRow N e size (.slice (some ⟨g, 0, none⟩) n c) n xs) (u : Value) : (w.setCell ⟨g, k, none⟩ u).ownsRow N e size (.slice (some ⟨g, 0, none⟩) n c) n (xs.set k u) := by
  rcases h.2 with ⟨q, _⟩ | ⟨g', cap, cur, q, hb, hg, hnc, hcm, hcs, ht⟩
  · cases q
  · injection q with e1 _ e2
    injection e1 with e1
    injection e1 with e1
    subst e1 e2
    refine own_of hb (heap_set_self hg k u) hnc hcm (by simpa using hcs) (by rw [List.length_set]; exact h.1) ?_
    rw [Array.toList_setIfInBounds, List.take_set, ht]
theorem own_froz {w : World} {N g n c size k : Nat} {e : TypeId} {xs : List Value} (h : w.ownsRow N e size (.slice (some ⟨g, 0, none⟩) n c) n xs) : w.frozen? ⟨g, k, none⟩ = false := by
  rcases h.2 with ⟨q, _⟩ | ⟨g', cap, cur, q, hb, hg, _⟩
  · cases q
  · injection q with e1 _ e2
    injection e1 with e1
    injection e1 with e1
    subst e1
    simp [World.frozen?, hg]
theorem own_drewN {w : World} {N n size : Nat} {e : TypeId} {v : Value} {xs : List Value} (t : Nat) (h : w.ownsRow N e size v n xs) : (w.drewN t).ownsRow N e size v n xs := h
theorem ext_lit (h : HI) (w : World) : SR (w.alloc (.cells #[.int .i64 h.b, .int .i64 1, .int .u64 h.v, .int .u64 h.v] 130)) (.slice (some ⟨w.heap.size, 0, none⟩) 1 1) 4 1 (eCells [newE h]) := SR.lit w 130 #[.int .i64 h.b, .int .i64 1, .int .u64 h.v, .int .u64 h.v] 4 1 (by decide) rfl
theorem owns_ext {w' : World} {N : Nat} {v' : Value} {L : List EX} {x : EX} (h : w'.ownsRow N 130 4 v' (L.length + 1) (eCells L ++ eCells [x])) : w'.ownsRow N 130 4 v' (L ++ [x]).length (eCells (L ++ [x])) := by
  rw [eCells_append, List.length_append]
  exact h
theorem app_bel {N : Nat} {w wr w2 : World} {ob : Obj} {o : Value} {n size : Nat} {e : TypeId} {xs : List Value} (hb : Below N w wr) (hN : N ≤ wr.heap.size) (ho : wr.ownsRow N e size o n xs) (hg : (wr.alloc ob).grownBy w2 o.ownBlock) : Below N w w2 :=
  below_app (hb.alloc hN ob) hg (ho.alloc ob) (Nat.le_refl _) (by simp; omega)
set_option maxHeartbeats 3200000 in
set_option maxRecDepth 100000 in
theorem ext_clos (acc : List EX) (h : HI) (ho : OkE acc) (hg : Good h) (hl : acc.length ≤ 1000) (N : Nat) (w : World) (v : Value) (hN : N ≤ w.heap.size) (hv : w.ownsRow N 130 4 v acc.length (eCells acc)) :
    Calls Try.prog 123 #[v, .agg #[.int .i64 h.b, .int .u64 h.v, .string h.d]] w fun e w' => ∃ v', e = .returned v' ∧ w'.ownsRow N 130 4 v' (stepE acc h).length (eCells (stepE acc h)) ∧ Below N w w' := by
  obtain ⟨i0, hi, hz0, hz1, hz2⟩ := info_parts info_ext
  have hb0 := (Below.refl N w).alloc hN (.cells #[.int .i64 h.b, .int .u64 h.v, .string h.d] 125)
  have hy := heap_alloc_self w (.cells #[.int .i64 h.b, .int .u64 h.v, .string h.d] 125)
  have hv1 := hv.alloc (.cells #[.int .i64 h.b, .int .u64 h.v, .string h.d] 125)
  have hs1 : N ≤ (w.alloc (.cells #[.int .i64 h.b, .int .u64 h.v, .string h.d] 125)).heap.size := by simp; omega
  have hbw := wf_le hg.ok.b
  have hb64 := hg.2.1
  have hb00 := hg.1
  have HB0 := Lib.hid hb0
  have HV := Lib.hid hv1
  have HV0 := Lib.hid hv
  have hob : ∀ k, v.ownBlock = some k → k < w.heap.size := fun k e => (hv.lt k e).2
  have HOB := Lib.hid hob
  rcases acc_cases acc with rfl | ⟨A, e, rfl⟩
  · rw [step_nil]
    obtain ⟨va, vc, rfl, -, -⟩ := (SR.owns hv).form
    clear hv hv1 hb0 hob
    go_enter Try.func123, Try.ntmps123
    go_upto_region 1 with fail
    generalize w.alloc (.cells #[.int .i64 h.b, .int .u64 h.v, .string h.d] 125) = w1 at *
    obtain ⟨d0, d1, d2⟩ := held_at hy
    clear hy
    go_upto_region 2 with fail
    go_cut [27] (fun s wx => s = .bool true ∧ ∃ t, wx = w1.drewN t)
    case first =>
      go_quiet (fail)
      go_wp2_with fail
      go_meet
      exact ⟨rfl, _, rfl⟩
    case rest =>
      obtain ⟨rfl, t, rfl⟩ := hcut
      have e0 : (w1.drewN t).cell? ⟨w.heap.size, 0, none⟩ = some (.int .i64 h.b) := d0
      have e1 : (w1.drewN t).cell? ⟨w.heap.size, 1, none⟩ = some (.int .u64 h.v) := d1
      have HVD := Lib.hid (own_drewN t HV.out)
      have HBD := Lib.hid (below_drewN' HB0.out t)
      have hsd : N ≤ (w1.drewN t).heap.size := hs1
      clear d0 d1 d2
      generalize w1.drewN t = w2 at *
      go_wp2_with (at_builtin; refine wp_app Try.underlying126 hi hz0 hz1 hz2 rfl (by decide) rfl (.tmp 28) (.tmp 38) rfl N _ 0 [] rfl (HVD.out.alloc _) _ 1 (eCells [newE h]) rfl (ext_lit h _) ?c1 ?c2 ?c3 ?c4 ?_)
      case c1 => exact eCells_one _
      case c2 => decide
      case c3 => decide
      case c4 => first | omega | (simp; omega)
      intro v' w9 hown hgr
      have HO := Lib.hid (owns_ext (L := []) hown)
      have HBF := Lib.hid (app_bel HBD.out hsd HVD.out hgr)
      clear hown hgr
      go_wp2_with fail
      go_ret
      exact ⟨_, rfl, HO.out, HBF.out⟩
  · have he := ho e (by simp)
    have hlen : (A ++ [e]).length = A.length + 1 := by simp
    obtain ⟨g, cap, cur, rfl, hNg, hgc, hnc, hcm, -, -⟩ := hv.2.resolve_left (fun q => by simp at q)
    unfold maxLen at hcm
    have HSR := Lib.hid (SR.owns hv1)
    obtain ⟨n, hn⟩ : ∃ n, A.length = n := ⟨_, rfl⟩
    rw [hn] at hlen
    have hx0 : (A ++ [e])[n]? = some e := by rw [← hn]; simp
    obtain ⟨g', off, hg', -, c0, c1, c2, c3⟩ := sr_ext HSR.out n e hx0
    injection hg' with hg'
    injection hg' with q1 q2
    subst q1 q2
    rw [Nat.zero_add] at c0 c1 c2 c3
    have hgw : g < w.heap.size := hob g rfl
    rw [hlen] at HV hnc hl ⊢
    have HSET := Lib.hid (eCells_set A)
    rw [hn] at HSET
    have HNA := Lib.hid hn
    have hn0 : (0 : Int) ≤ n := by omega
    have hnl : ¬ (n : Int) < 0 := by omega
    have hnd : decide ((n : Int) < 0) = false := decide_eq_false hnl
    have hn1 : (n : Int) < (n + 1 : Nat) := by omega
    have hnw : IntKind.i64.wrap (((n + 1 : Nat) : Int) - 1) = n := by rw [IntKind.wrap_i64]; omega
    clear hv hv1 hb0 hob ho hx0 HSR hgc hn
    by_cases q : e.f + e.n = h.b
    · rw [step_join q]
      have hwq : IntKind.i64.wrap (e.f + e.n) = e.f + e.n := by rw [IntKind.wrap_i64]; omega
      have hwn : IntKind.i64.wrap (e.n + 1) = e.n + 1 := by rw [IntKind.wrap_i64]; omega
      have hq1 : ((e.f + e.n) == h.b) = true := by simp [q]
      have hq2 : ((e.f + e.n) != h.b) = false := by simp [q]
      have HQ := Lib.hid q
      have HGL : Hid ((A ++ [grow e h]).length = n + 1) := Lib.hid (by simp [HNA.out])
      clear q
      go_enter Try.func123, Try.ntmps123
      go_upto_region 1 with fail
      generalize w.alloc (.cells #[.int .i64 h.b, .int .u64 h.v, .string h.d] 125) = w1 at *
      obtain ⟨d0, d1, d2⟩ := held_at hy
      have HY := Lib.hid hy
      clear hy
      go_upto_region 2 with fail
      go_cut [27] (fun s wx => s = .bool false ∧ ∃ t, wx = w1.drewN t)
      case first =>
        go_quiet (fail)
        go_wp2_with fail
        go_meet
        exact ⟨by simp [HQ.out], _, rfl⟩
      case rest =>
        obtain ⟨rfl, t, rfl⟩ := hcut
        have HVD := Lib.hid (own_drewN t HV.out)
        have HBD := Lib.hid (below_drewN' HB0.out t)
        have c1' : (w1.drewN t).cell? ⟨g, n * 4 + 1, none⟩ = some (.int .i64 e.n) := c1
        have hYg : w.heap.size ≠ g := by omega
        have HY2 : Hid ((w1.drewN t).heap[w.heap.size]? = some (.cells #[.int .i64 h.b, .int .u64 h.v, .string h.d] 125)) := Lib.hid HY.out
        clear d0 d1 d2 c0 c1 c2 c3
        generalize w1.drewN t = w2 at *
        have f1 := own_froz (k := n * 4 + 1) HVD.out
        have ho3 := own_cel (k := n * 4 + 1) HVD.out (.int .i64 (e.n + 1))
        rw [(HSET.out e).1] at ho3
        have hb3 := HBD.out.setCell (p := ⟨g, n * 4 + 1, none⟩) hNg (.int .i64 (e.n + 1))
        have y3 : (w2.setCell ⟨g, n * 4 + 1, none⟩ (.int .i64 (e.n + 1))).heap[w.heap.size]? = some (.cells #[.int .i64 h.b, .int .u64 h.v, .string h.d] 125) := (heap_setCell_other _ _ _ _ hYg).trans HY2.out
        have HO3 := Lib.hid ho3
        have HB3 := Lib.hid hb3
        clear ho3 hb3
        go_upto_region 6 with fail
        generalize w2.setCell ⟨g, n * 4 + 1, none⟩ (.int .i64 (e.n + 1)) = w3 at *
        obtain ⟨d0, d1, d2⟩ := held_at y3
        have hx3 : (A ++ [(⟨e.f, e.n + 1, e.lo, e.hi⟩ : EX)])[n]? = some ⟨e.f, e.n + 1, e.lo, e.hi⟩ := by rw [← HNA.out]; simp
        have hs3 : SR w3 (.slice (some ⟨g, 0, none⟩) (n + 1) cap) 4 (n + 1) (eCells (A ++ [⟨e.f, e.n + 1, e.lo, e.hi⟩])) := SR.owns HO3.out
        obtain ⟨g', off, hg', -, -, -, c2, c3⟩ := sr_ext hs3 n _ hx3
        injection hg' with hg'
        injection hg' with q1 q2
        subst q1 q2
        rw [Nat.zero_add] at c2 c3
        have f2 := own_froz (k := n * 4 + 2) HO3.out
        have ho4 := own_drewN 1 (own_cel (k := n * 4 + 2) HO3.out (.int .u64 (min e.lo h.v)))
        rw [(HSET.out _).2.1, show ∀ x : World, x.drewN 1 = x.drew from fun _ => rfl] at ho4
        have hb4 := below_drew' (HB3.out.setCell (p := ⟨g, n * 4 + 2, none⟩) hNg (.int .u64 (min e.lo h.v)))
        have y4 : ((w3.setCell ⟨g, n * 4 + 2, none⟩ (.int .u64 (min e.lo h.v))).drew).heap[w.heap.size]? = some (.cells #[.int .i64 h.b, .int .u64 h.v, .string h.d] 125) := (heap_setCell_other _ _ _ _ hYg).trans y3
        have HO4 := Lib.hid ho4
        have HB4 := Lib.hid hb4
        clear hs3 ho4 hb4 hx3 c1' f1
        go_still_tail 11, (by kernel_rfl)
        change wpList _ _ _ _ _ w3.drew
        go_upto_region 7 with fail
        clear d0 d1 d2 c2 c3 f2 y3
        generalize (w3.setCell ⟨g, n * 4 + 2, none⟩ (.int .u64 (min e.lo h.v))).drew = w4 at *
        obtain ⟨d0, d1, d2⟩ := held_at y4
        have hx4 : (A ++ [(⟨e.f, e.n + 1, min e.lo h.v, e.hi⟩ : EX)])[n]? = some ⟨e.f, e.n + 1, min e.lo h.v, e.hi⟩ := by rw [← HNA.out]; simp
        have hs4 : SR w4 (.slice (some ⟨g, 0, none⟩) (n + 1) cap) 4 (n + 1) (eCells (A ++ [⟨e.f, e.n + 1, min e.lo h.v, e.hi⟩])) := SR.owns HO4.out
        obtain ⟨g', off, hg', -, -, -, -, c3⟩ := sr_ext hs4 n _ hx4
        injection hg' with hg'
        injection hg' with q1 q2
        subst q1 q2
        rw [Nat.zero_add] at c3
        have f3 := own_froz (k := n * 4 + 3) HO4.out
        have ho5 := own_drewN 1 (own_cel (k := n * 4 + 3) HO4.out (.int .u64 (max e.hi h.v)))
        rw [(HSET.out _).2.2, show ∀ x : World, x.drewN 1 = x.drew from fun _ => rfl] at ho5
        have HO5 := Lib.hid ho5
        have HB5 := Lib.hid (below_drew' (HB4.out.setCell (p := ⟨g, n * 4 + 3, none⟩) hNg (.int .u64 (max e.hi h.v))))
        clear hs4 ho5 hx4 y4
        go_still_tail 11, (by kernel_rfl)
        change wpList _ _ _ _ _ w4.drew
        go_wp2_with fail
        go_ret
        exact ⟨_, rfl, by first | (rw [HGL.out]; exact HO5.out) | (rw [HNA.out]; exact HO5.out), HB5.out⟩
    · rw [step_new q]
      have hwq : IntKind.i64.wrap (e.f + e.n) = e.f + e.n := by rw [IntKind.wrap_i64]; omega
      have hq1 : ((e.f + e.n) == h.b) = false := by simp [q]
      have hq2 : ((e.f + e.n) != h.b) = true := by simp [q]
      have HQ := Lib.hid q
      clear q
      go_enter Try.func123, Try.ntmps123
      go_upto_region 1 with fail
      generalize w.alloc (.cells #[.int .i64 h.b, .int .u64 h.v, .string h.d] 125) = w1 at *
      obtain ⟨d0, d1, d2⟩ := held_at hy
      clear hy
      go_upto_region 2 with fail
      go_cut [27] (fun s wx => s = .bool true ∧ ∃ t, wx = w1.drewN t)
      case first =>
        go_quiet (fail)
        go_wp2_with fail
        go_meet
        exact ⟨by first | rfl | simp [HQ.out], _, rfl⟩
      case rest =>
        obtain ⟨rfl, t, rfl⟩ := hcut
        have e0 : (w1.drewN t).cell? ⟨w.heap.size, 0, none⟩ = some (.int .i64 h.b) := d0
        have e1 : (w1.drewN t).cell? ⟨w.heap.size, 1, none⟩ = some (.int .u64 h.v) := d1
        have HVD := Lib.hid (own_drewN t HV.out)
        have HBD := Lib.hid (below_drewN' HB0.out t)
        have hsd : N ≤ (w1.drewN t).heap.size := hs1
        clear d0 d1 d2 c0 c1 c2 c3
        generalize w1.drewN t = w2 at *
        go_wp2_with (at_builtin; refine wp_app Try.underlying126 hi hz0 hz1 hz2 rfl (by decide) rfl (.tmp 28) (.tmp 38) rfl N _ (n + 1) _ rfl (HVD.out.alloc _) _ 1 (eCells [newE h]) rfl (ext_lit h _) ?c1 ?c2 ?c3 ?c4 ?_)
        case c1 => exact eCells_one _
        case c2 => unfold maxLen; omega
        case c3 => omega
        case c4 => first | omega | (simp; omega)
        intro v' w9 hown hgr
        have HO := Lib.hid (owns_ext (L := A ++ [e]) (by rw [List.length_append, HNA.out]; exact hown))
        have HBF := Lib.hid (app_bel HBD.out hsd HVD.out hgr)
        clear hown hgr
        go_wp2_with fail
        go_ret
        exact ⟨_, rfl, HO.out, HBF.out⟩
set_option maxHeartbeats 1600000 in
set_option maxRecDepth 100000 in
/-- extent.Of -/
theorem ext_of (l : List HI) (hok : ∀ x ∈ l, Ok x) (w : World) (v : Value) (hv : SR w v 3 l.length (hCells l)) :
    Calls Try.prog 68 #[v] w fun e w' => ∃ v', e = .returned v' ∧ SR w' v' 4 (extL (putAll [] l)).length (eCells (extL (putAll [] l))) ∧ Below w.heap.size w w' := by
  have ci := iof l hok w v hv
  have HS := Lib.hid (srt_putAll Srt.nil hok)
  obtain ⟨a, cap, rfl, hlc, hcm⟩ := hv.form
  obtain ⟨L, hL⟩ : ∃ L, putAll [] l = L := ⟨_, rfl⟩
  rw [hL] at ci HS ⊢
  clear hv hok hL
  have cf : ∀ (w : World) (v : Value), SR w v 3 L.length (hCells L) → Calls Try.prog 122 #[v, .slice none 0 0, .func (.func 123) #[] #[]] w fun e w' => ∃ v', e = .returned v' ∧ w'.ownsRow w.heap.size 130 4 v' (extL L).length (eCells (extL L)) ∧ Below w.heap.size w w' := by
    intro w v hv
    obtain ⟨a, cap, rfl, hlc, hcm⟩ := hv.form
    unfold maxLen at hcm
    have eg : ∀ args w, (callFunc 123 args).run Try.prog w = .ok (.enter 123 args) w := fun _ _ => by rfl
    have HV := Lib.hid hv
    clear hv
    go_enter Try.func122, Try.ntmps122
    go_wp2_with fail
    go_loopw [1, 11] (fun o i wr => ∃ j : Nat, j ≤ L.length ∧ i = .int .i64 j ∧ Hid (wr.ownsRow w.heap.size 130 4 o (extL (L.take j)).length (eCells (extL (L.take j))) ∧ Below w.heap.size w wr)) (fun _ i _ => L.length - (intOf i).toNat)
    case atStart => exact ⟨0, Nat.zero_le _, rfl, Lib.hid ⟨World.ownsRow_nil _ _ _ _, Below.refl _ _⟩⟩
    case round =>
      obtain ⟨j, hj, rfl, HL⟩ := hrel
      by_cases hlt : j < L.length
      · obtain ⟨x, hx⟩ : ∃ x, L[j]? = some x := ⟨_, List.getElem?_eq_getElem hlt⟩
        obtain ⟨b, off, rfl, -, c0, c1, c2⟩ := sr_held (HV.out.below HL.out.2) j x hx
        have hb1 := (Below.refl wr.heap.size wr).alloc (Nat.le_refl _) (.cells #[.int .i64 x.b, .int .u64 x.v, .string x.d] 125)
        have hy := heap_alloc_self wr (.cells #[.int .i64 x.b, .int .u64 x.v, .string x.d] 125)
        have HX := Lib.hid (ext_take hx)
        have cc := ext_clos (extL (L.take j)) x (ok_ext (fun y hy => HS.out.all y (List.mem_of_mem_take hy))) (HS.out.all x (List.mem_of_getElem? hx)) (by have := ext_len (L.take j); have := HS.out.len; rw [List.length_take] at *; omega) w.heap.size _ _ (Nat.le_trans HL.out.2.size hb1.size) (owns_below HL.out.1 hb1)
        have HB := Lib.hid (HL.out.2.trans (hb1.mono HL.out.2.size))
        clear hx hb1
        go_upto_region 4 with fail
        generalize wr.alloc (.cells #[.int .i64 x.b, .int .u64 x.v, .string x.d] 125) = w2 at *
        obtain ⟨d0, d1, d2⟩ := held_at hy
        clear c0 c1 c2 hy
        go_wp2_with fail
        refine Calls.mono cc ?_
        rintro e w3 ⟨v', rfl, ho3, hb3⟩
        have HO3 := Lib.hid ho3
        have HB3 := Lib.hid (HB.out.trans hb3)
        clear ho3 hb3 cc d0 d1 d2
        go_wp2_with fail
        go_roundw
        case rel => exact ⟨j + 1, by omega, by go_num, Lib.hid ⟨by rw [HX.out]; exact HO3.out, HB3.out⟩⟩
        case measure => simp [intOf]; omega
      · obtain rfl : j = L.length := by omega
        have HQ := HL.out
        rw [List.take_length] at HQ
        have HQ' := Lib.hid HQ
        clear HQ
        go_wp2_with fail
        go_ret
        exact ⟨_, rfl, HQ'.out.1, HQ'.out.2⟩
  go_enter Try.func68, Try.ntmps68
  go_wp2_with fail
  refine Calls.mono ci ?_
  rintro e w1 ⟨rfl, sv, hs1, hb1⟩
  have ca := sall _ _ _ _ _ hs1
  have HB1 := Lib.hid hb1
  clear hs1 hb1 ci
  go_wp2_with fail
  refine Calls.mono ca ?_
  rintro e w2 ⟨v2, rfl, ho2, hb2⟩
  have c2 := cf w2 v2 (SR.owns ho2)
  have HB2 := Lib.hid (HB1.out.trans (hb2.mono HB1.out.size))
  clear ho2 hb2 ca cf
  go_wp2_with fail
  refine Calls.mono c2 ?_
  rintro e w3 ⟨v3, rfl, ho3, hb3⟩
  have HR3 := Lib.hid (SR.owns ho3)
  have HB3 := Lib.hid (HB2.out.trans (hb3.mono HB2.out.size))
  clear ho3 hb3 c2
  go_wp2_with fail
  go_ret
  exact ⟨_, rfl, HR3.out, HB3.out⟩
set_option maxHeartbeats 1600000 in
set_option maxRecDepth 100000 in
/-- extent.Blocks -/
theorem ext_blocks (l : List EX) (ho : OkE l) (hl : l.length ≤ 1000) (w : World) (v : Value) (hv : SR w v 4 l.length (eCells l)) :
    Calls Try.prog 121 #[v] w fun e w' => e = .returned (.int .i64 (sumE l)) ∧ Below w.heap.size w w' := by
  have cf : Calls Try.prog 160 #[v, .int .i64 0, .func (.func 161) #[] #[]] w fun e w' => e = .returned (.int .i64 (sumE l)) ∧ Below w.heap.size w w' := by
    obtain ⟨a, cap, rfl, hlc, hcm⟩ := hv.form
    unfold maxLen at hcm
    have eg : ∀ args w, (callFunc 161 args).run Try.prog w = .ok (.enter 161 args) w := fun _ _ => by rfl
    have HV := Lib.hid hv
    have HO := Lib.hid ho
    clear hv ho
    go_enter Try.func160, Try.ntmps160
    go_wp2_with fail
    go_loopw [1, 11] (fun o i wr => ∃ j : Nat, j ≤ l.length ∧ i = .int .i64 j ∧ o = .int .i64 (sumE (l.take j)) ∧ Hid (Below w.heap.size w wr)) (fun _ i _ => l.length - (intOf i).toNat)
    case atStart => exact ⟨0, Nat.zero_le _, rfl, rfl, Lib.hid (Below.refl _ _)⟩
    case round =>
      obtain ⟨j, hj, rfl, rfl, HL⟩ := hrel
      by_cases hlt : j < l.length
      · obtain ⟨x, hx⟩ : ∃ x, l[j]? = some x := ⟨_, List.getElem?_eq_getElem hlt⟩
        obtain ⟨b, off, rfl, -, c0, c1, c2, c3⟩ := sr_ext (HV.out.below HL.out) j x hx
        have hb1 := (Below.refl wr.heap.size wr).alloc (Nat.le_refl _) (.cells #[.int .i64 x.f, .int .i64 x.n, .int .u64 x.lo, .int .u64 x.hi] 130)
        have hy := heap_alloc_self wr (.cells #[.int .i64 x.f, .int .i64 x.n, .int .u64 x.lo, .int .u64 x.hi] 130)
        have HX := Lib.hid (sum_take hx)
        have hox := HO.out x (List.mem_of_getElem? hx)
        have hsb := sum_bound (l := l.take j) (fun y hy => HO.out y (List.mem_of_mem_take hy))
        have hlj : (l.take j).length ≤ 1000 := by rw [List.length_take]; omega
        obtain ⟨U, hU⟩ : ∃ U, sumE (l.take j) = U := ⟨_, rfl⟩
        rw [hU] at hsb HX
        try rw [hU]
        have hU1 : 0 ≤ U ∧ U ≤ 64000 := by omega
        have hmx : max x.n 0 = x.n := by omega
        rw [hmx] at HX
        have cc : ∀ w', Calls Try.prog 161 #[.int .i64 U, .agg #[.int .i64 x.f, .int .i64 x.n, .int .u64 x.lo, .int .u64 x.hi]] w' fun e w'' => e = .returned (.int .i64 (U + x.n)) ∧ Below w'.heap.size w' w'' := fun w' => by
          have hy := heap_alloc_self w' (.cells #[.int .i64 x.f, .int .i64 x.n, .int .u64 x.lo, .int .u64 x.hi] 130)
          have hb0 := (Below.refl w'.heap.size w').alloc (Nat.le_refl _) (.cells #[.int .i64 x.f, .int .i64 x.n, .int .u64 x.lo, .int .u64 x.hi] 130)
          have hww : IntKind.i64.wrap (U + x.n) = U + x.n := by rw [IntKind.wrap_i64]; omega
          have hx2 : x.n ≤ 64 := by omega
          go_enter Try.func161, Try.ntmps161
          go_upto_region 1 with fail
          generalize w'.alloc (.cells #[.int .i64 x.f, .int .i64 x.n, .int .u64 x.lo, .int .u64 x.hi] 130) = w2 at *
          have d1 : w2.cell? ⟨w'.heap.size, 1, none⟩ = some (.int .i64 x.n) := by simp [World.cell?, hy]
          clear hy
          go_wp2_with fail
          go_ret
          exact ⟨by first | rfl | (congr 2; omega), hb0⟩
        have HB := Lib.hid (HL.out.trans (hb1.mono HL.out.size))
        clear hx hb1 hU hsb hlj
        go_upto_region 4 with fail
        generalize wr.alloc (.cells #[.int .i64 x.f, .int .i64 x.n, .int .u64 x.lo, .int .u64 x.hi] 130) = w2 at *
        have d0 : w2.cell? ⟨wr.heap.size, 0, none⟩ = some (.int .i64 x.f) := by simp [World.cell?, hy]
        have d1 : w2.cell? ⟨wr.heap.size, 1, none⟩ = some (.int .i64 x.n) := by simp [World.cell?, hy]
        have d2 : w2.cell? ⟨wr.heap.size, 2, none⟩ = some (.int .u64 x.lo) := by simp [World.cell?, hy]
        have d3 : w2.cell? ⟨wr.heap.size, 3, none⟩ = some (.int .u64 x.hi) := by simp [World.cell?, hy]
        clear c0 c1 c2 c3 hy
        go_wp2_with fail
        refine Calls.mono (cc _) ?_
        rintro e w3 ⟨rfl, hb3⟩
        have HB3 := Lib.hid (HB.out.trans (hb3.mono HB.out.size))
        clear hb3 cc d0 d1 d2 d3
        go_wp2_with fail
        go_roundw
        case rel => exact ⟨j + 1, by omega, by go_num, by rw [HX.out], HB3⟩
        case measure => simp [intOf]; omega
      · obtain rfl : j = l.length := by omega
        rw [List.take_length]
        go_wp2_with fail
        go_ret
        exact ⟨rfl, HL.out⟩
  clear hv ho
  go_enter Try.func121, Try.ntmps121
  go_wp2_with fail
  refine Calls.mono cf ?_
  rintro e w1 ⟨rfl, hb1⟩
  have HB1 := Lib.hid hb1
  clear hb1 cf
  go_wp2_with fail
  go_ret
  exact ⟨rfl, HB1.out⟩
end Go.Proofs.Ytadejhlljdcocaa
