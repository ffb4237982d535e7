/-
  Several texts, laid together.
-/
import Derived.Test.YtfgmeeponipjeaaMg4
import Derived.Test.YtfgmeeponipjeaaMg5
import Derived.Test.YtfgmeeponipjeaaMg2
/-
  An arc: Use, whatever it holds; it keeps what ArcRoom's law asks.
-/



namespace Go.Proofs.Ytfgmeeponipjeaa
open Go.RowKit
set_option linter.unusedVariables false
set_option linter.unusedSimpArgs false

def AUse (w : World) (N a : Nat) (R : Int) (V : Nat → Value) (n : Int) (e : Ending) (w' : World) : Prop :=
  ∃ (o : Option Int) (W' : Int) (V' : Nat → Value) (L' : Nat → List Int), e = .returned (outV o) ∧ ArcAt w' N a R W' V' L' ∧ AI R W' L' ∧ ArcKept w w' N a V V' ∧ ((L' 0).contains n || (L' 1).contains n) = decide (0 < R)
theorem ause_all (n : Int) (w : World) (N a : Nat) (R W : Int) (V : Nat → Value) (L : Nat → List Int) (h : ArcAt w N a R W V L) (hi : AI R W L) (hR : R ≤ 64) :
    Calls Try.prog 83 #[.pointer (some ⟨a, 0, none⟩), .int .i64 n] w (AUse w N a R V n) := by
  have hw := hi.w0
  have hwR := hi.wR
  have hl := hi.len hR
  by_cases hR0 : R = 0
  · subst hR0
    refine (ause_room n w N a W V L h).mono ?_
    rintro e w' ⟨rfl, rfl⟩
    have h0 : L 0 = [] := List.length_eq_zero_iff.1 (by have := hi.a01; omega)
    have h1 : L 1 = [] := List.length_eq_zero_iff.1 (by have := hi.a01; omega)
    exact ⟨none, W, V, L, rfl, h, hi, ArcKept.refl _ _ _ _, by rw [h0, h1]; rfl⟩
  · have hpos : 0 < R := by omega
    have hd : decide (0 < R) = true := decide_eq_true hpos
    cases hc : ((L 0).contains n || (L 1).contains n)
    · have hc' := hc
      rw [Bool.or_eq_false_iff] at hc'
      obtain ⟨c0, c1⟩ := hc'
      have z0 : (L 0).count n = 0 := List.count_eq_zero.2 (by simpa using c0)
      have z1 : (L 1).count n = 0 := List.count_eq_zero.2 (by simpa using c1)
      have ho := hi.one n
      unfold cnt at ho
      cases hc2 : (L 2).contains n
      · have z2 : (L 2).count n = 0 := List.count_eq_zero.2 (by simpa using hc2)
        cases hc3 : (L 3).contains n
        · have z3 : (L 3).count n = 0 := List.count_eq_zero.2 (by simpa using hc3)
          refine (ause_fresh n w N a R W V L h hpos hR hl ?_).mono ?_
          · intro i hi4
            match i, hi4 with
            | 0, _ => exact c0
            | 1, _ => exact c1
            | 2, _ => exact hc2
            | 3, _ => exact hc3
          · rintro e w' ⟨rfl, V', hA, hK⟩
            exact ⟨_, W, V', _, rfl, hA, fresh_keeps hi hpos (by unfold cnt; omega), hK, by rw [upd_at, hd]; simp⟩
        · have p3 : 0 < (L 3).count n := List.count_pos_iff.2 (by simpa using hc3)
          refine (ause_was3 n w N a R W V L h hpos hR hw (by omega) hl hc hc2 hc3).mono ?_
          rintro e w' ⟨rfl, V', hA, hK⟩
          exact ⟨_, _, V', _, rfl, hA, again3_keeps (hi.want (by omega) (by omega)) hpos (by omega), hK, by rw [hd, show ∀ W', (sAgain W' n 3 L).1 1 = n :: ((sRoom W' (3 == 3) L).1 1).erase n from fun _ => rfl]; simp⟩
      · have p2 : 0 < (L 2).count n := List.count_pos_iff.2 (by simpa using hc2)
        refine (ause_was2 n w N a R W V L h hpos hR hw (by omega) hl hc hc2).mono ?_
        rintro e w' ⟨rfl, V', hA, hK⟩
        exact ⟨_, _, V', _, rfl, hA, again2_keeps (hi.want (by omega) (by omega)) hpos (by omega), hK, by rw [hd, show ∀ W', (sAgain W' n 2 L).1 1 = n :: ((sRoom W' (2 == 3) L).1 1).erase n from fun _ => rfl]; simp⟩
    · refine (ause_has n w N a R W V L h hpos hc (by have := hi.a01; omega) (by have := hi.a01; omega)).mono ?_
      rintro e w' ⟨rfl, V', hA, hK⟩
      have ho := hi.one n
      unfold cnt at ho
      have hs : 0 < (L 0).count n + (L 1).count n := by
        rw [Bool.or_eq_true] at hc
        rcases hc with q | q
        · have := List.count_pos_iff.2 (show n ∈ L 0 by simpa using q); omega
        · have := List.count_pos_iff.2 (show n ∈ L 1 by simpa using q); omega
      exact ⟨none, W, V', _, rfl, hA, has_keeps hi (by omega), hK, by rw [upd_at, hd]; simp⟩
end Go.Proofs.Ytfgmeeponipjeaa
/-
  An arc: what Use keeps: nothing that was not kept, but the number itself; not the one that goes.
-/

namespace Go.Proofs.Ytfgmeeponipjeaa
open Go.RowKit
set_option linter.unusedVariables false
set_option linter.unusedSimpArgs false

/-- how often a number is kept -/
def kc (L : Nat → List Int) (y : Int) : Nat := (L 0).count y + (L 1).count y
/-- nothing new is kept; the one that goes was kept, and is no more -/
def Shr (L : Nat → List Int) (r : (Nat → List Int) × Option Int) : Prop := (∀ y, kc r.1 y ≤ kc L y) ∧ ∀ g, r.2 = some g → kc r.1 g = 0 ∧ 0 < kc L g
theorem Shr.none (L : Nat → List Int) : Shr L (L, .none) := ⟨fun _ => Nat.le_refl _, fun g e => by cases e⟩
theorem Shr.eq {L L1 : Nat → List Int} {r : (Nat → List Int) × Option Int} (h : Shr L1 r) (e : ∀ y, kc L1 y = kc L y) : Shr L r := ⟨fun y => by rw [← e y]; exact h.1 y, fun g q => by rw [← e g]; exact h.2 g q⟩
theorem shr_move02 (L : Nat → List Int) (h : ∀ y, kc L y ≤ 1) : Shr L (sMove 0 2 L) := by
  rcases snoc_or (L 0) with hL | ⟨l, x, hL⟩
  · rw [sMove_nil _ _ _ hL]; exact Shr.none L
  · rw [sMove_some _ _ _ hL]
    have e : ∀ y, kc (upd (upd L 0 l) 2 (x :: (L 2).erase x)) y = l.count y + (L 1).count y := fun y => rfl
    have e2 : ∀ y, kc L y = l.count y + (if y = x then 1 else 0) + (L 1).count y := fun y => by unfold kc; rw [hL, count_snoc]
    refine ⟨fun y => ?_, fun g q => ?_⟩
    · rw [e, e2]; omega
    · obtain rfl : x = g := by simpa using q
      have := h x
      rw [e2, if_pos rfl] at this
      rw [e, e2, if_pos rfl]
      omega
theorem shr_move13 (L : Nat → List Int) (h : ∀ y, kc L y ≤ 1) : Shr L (sMove 1 3 L) := by
  rcases snoc_or (L 1) with hL | ⟨l, x, hL⟩
  · rw [sMove_nil _ _ _ hL]; exact Shr.none L
  · rw [sMove_some _ _ _ hL]
    have e : ∀ y, kc (upd (upd L 1 l) 3 (x :: (L 3).erase x)) y = (L 0).count y + l.count y := fun y => rfl
    have e2 : ∀ y, kc L y = (L 0).count y + (l.count y + (if y = x then 1 else 0)) := fun y => by unfold kc; rw [hL, count_snoc]
    refine ⟨fun y => ?_, fun g q => ?_⟩
    · rw [e, e2]; omega
    · obtain rfl : x = g := by simpa using q
      have := h x
      rw [e2, if_pos rfl] at this
      rw [e, e2, if_pos rfl]
      omega
theorem shr_room (W : Int) (was : Bool) (L : Nat → List Int) (h : ∀ y, kc L y ≤ 1) : Shr L (sRoom W was L) := by
  unfold sRoom
  split
  · exact shr_move02 L h
  · exact shr_move13 L h
theorem kc_pop (f : Nat) (hf : f = 2 ∨ f = 3) (L : Nat → List Int) (y : Int) : kc (sPop f L).1 y = kc L y := by
  unfold sPop
  split
  · rfl
  · rcases hf with rfl | rfl <;> rfl
theorem shr_pop0 (L : Nat → List Int) (h : ∀ y, kc L y ≤ 1) : Shr L (sPop 0 L) := by
  rcases snoc_or (L 0) with hL | ⟨l, x, hL⟩
  · rw [show sPop 0 L = (L, none) by simp [sPop, hL]]; exact Shr.none L
  · rw [show sPop 0 L = (upd L 0 l, some x) by simp [sPop, hL]]
    have e : ∀ y, kc (upd L 0 l) y = l.count y + (L 1).count y := fun y => rfl
    have e2 : ∀ y, kc L y = l.count y + (if y = x then 1 else 0) + (L 1).count y := fun y => by unfold kc; rw [hL, count_snoc]
    refine ⟨fun y => ?_, fun g q => ?_⟩
    · rw [e, e2]; omega
    · obtain rfl : x = g := by simpa using q
      have := h x
      rw [e2, if_pos rfl] at this
      rw [e, e2, if_pos rfl]
      omega
theorem shr_comes (R W : Int) (L : Nat → List Int) (h : ∀ y, kc L y ≤ 1) : Shr L (sComes R W L) := by
  unfold sComes
  simp only
  split
  · split
    · exact (shr_room W false _ (fun y => by rw [kc_pop 2 (.inl rfl)]; exact h y)).eq (kc_pop 2 (.inl rfl) L)
    · exact shr_pop0 L h
  · split
    · exact (shr_room W false _ (fun y => by rw [kc_pop 3 (.inr rfl)]; exact h y)).eq (kc_pop 3 (.inr rfl) L)
    · split
      · exact shr_room W false L h
      · exact Shr.none L
/-- what Use of a number does to what is kept -/
def KU (L L' : Nat → List Int) (o : Option Int) (n : Int) : Prop := (∀ y, y ≠ n → 0 < kc L' y → 0 < kc L y) ∧ (∀ g, o = some g → g ≠ n ∧ kc L' g = 0 ∧ 0 < kc L g) ∧ 0 < kc L' n
theorem KU.push0 {L : Nat → List Int} {r : (Nat → List Int) × Option Int} {n : Int} (h : Shr L r) (hn : kc L n = 0) : KU L (upd r.1 0 (n :: (r.1 0).erase n)) r.2 n := by
  have e : ∀ y, kc (upd r.1 0 (n :: (r.1 0).erase n)) y = (n :: (r.1 0).erase n).count y + (r.1 1).count y := fun y => rfl
  have k1 : ∀ y, y ≠ n → kc (upd r.1 0 (n :: (r.1 0).erase n)) y = kc r.1 y := fun y hy => by
    rw [e, List.count_cons_of_ne (Ne.symm hy), List.count_erase_of_ne hy]; rfl
  refine ⟨fun y hy hp => ?_, fun g q => ?_, ?_⟩
  · rw [k1 y hy] at hp
    exact Nat.lt_of_lt_of_le hp (h.1 y)
  · obtain ⟨a, b⟩ := h.2 g q
    have hg : g ≠ n := fun e => by rw [e] at b; omega
    exact ⟨hg, by rw [k1 g hg]; exact a, b⟩
  · rw [e, List.count_cons_self]; omega
theorem KU.push1 {L L1 : Nat → List Int} {o : Option Int} {n : Int} (h : Shr L (L1, o)) (hn : kc L n = 0) : KU L (upd L1 1 (n :: (L1 1).erase n)) o n := by
  have e : ∀ y, kc (upd L1 1 (n :: (L1 1).erase n)) y = (L1 0).count y + (n :: (L1 1).erase n).count y := fun y => rfl
  have k1 : ∀ y, y ≠ n → kc (upd L1 1 (n :: (L1 1).erase n)) y = kc L1 y := fun y hy => by
    rw [e, List.count_cons_of_ne (Ne.symm hy), List.count_erase_of_ne hy]; rfl
  refine ⟨fun y hy hp => ?_, fun g q => ?_, ?_⟩
  · rw [k1 y hy] at hp
    exact Nat.lt_of_lt_of_le hp (h.1 y)
  · obtain ⟨a, b⟩ := h.2 g q
    have hg : g ≠ n := fun e => by rw [e] at b; omega
    exact ⟨hg, by rw [k1 g hg]; exact a, b⟩
  · rw [e, List.count_cons_self]; omega
theorem KU.has {L : Nat → List Int} {n : Int} : KU L (upd (upd L 0 ((L 0).erase n)) 1 (n :: (L 1).erase n)) none n := by
  have e : ∀ y, kc (upd (upd L 0 ((L 0).erase n)) 1 (n :: (L 1).erase n)) y = ((L 0).erase n).count y + (n :: (L 1).erase n).count y := fun y => rfl
  refine ⟨fun y hy hp => ?_, fun g q => (by cases q), ?_⟩
  · rw [e, List.count_cons_of_ne (Ne.symm hy), List.count_erase_of_ne hy, List.count_erase_of_ne hy] at hp
    exact hp
  · rw [e, List.count_cons_self]; omega
theorem AI.kc {R W : Int} {L : Nat → List Int} (h : AI R W L) (y : Int) : kc L y ≤ 1 := by
  have := h.one y
  unfold cnt at this
  unfold Go.Proofs.Ytfgmeeponipjeaa.kc
  omega
def AUseK (w : World) (N a : Nat) (R : Int) (V : Nat → Value) (L : Nat → List Int) (n : Int) (e : Ending) (w' : World) : Prop :=
  ∃ (o : Option Int) (W' : Int) (V' : Nat → Value) (L' : Nat → List Int), e = .returned (outV o) ∧ ArcAt w' N a R W' V' L' ∧ AI R W' L' ∧ ArcKept w w' N a V V' ∧ KU L L' o n
theorem has_kc (L : Nat → List Int) (n : Int) : ((L 0).contains n || (L 1).contains n) = decide (0 < kc L n) := by
  unfold kc
  rw [Bool.eq_iff_iff]
  simp only [Bool.or_eq_true, List.contains_iff_mem, decide_eq_true_eq]
  constructor
  · rintro (q | q)
    · have := List.count_pos_iff.2 q; omega
    · have := List.count_pos_iff.2 q; omega
  · intro q
    rcases Nat.eq_zero_or_pos ((L 0).count n) with h | h
    · exact .inr (List.count_pos_iff.1 (by omega))
    · exact .inl (List.count_pos_iff.1 h)
theorem ause_kept (n : Int) (w : World) (N a : Nat) (R W : Int) (V : Nat → Value) (L : Nat → List Int) (h : ArcAt w N a R W V L) (hi : AI R W L) (hR : R ≤ 64) (hpos : 0 < R) :
    Calls Try.prog 83 #[.pointer (some ⟨a, 0, none⟩), .int .i64 n] w (AUseK w N a R V L n) := by
  have hw := hi.w0
  have hwR := hi.wR
  have hl := hi.len hR
  cases hc : ((L 0).contains n || (L 1).contains n)
  · have hc' := hc
    have hk0 : kc L n = 0 := by rw [has_kc] at hc; simpa using hc
    rw [Bool.or_eq_false_iff] at hc'
    obtain ⟨c0, c1⟩ := hc'
    have z0 : (L 0).count n = 0 := List.count_eq_zero.2 (by simpa using c0)
    have z1 : (L 1).count n = 0 := List.count_eq_zero.2 (by simpa using c1)
    have ho := hi.one n
    unfold cnt at ho
    cases hc2 : (L 2).contains n
    · have z2 : (L 2).count n = 0 := List.count_eq_zero.2 (by simpa using hc2)
      cases hc3 : (L 3).contains n
      · have z3 : (L 3).count n = 0 := List.count_eq_zero.2 (by simpa using hc3)
        refine (ause_fresh n w N a R W V L h hpos hR hl ?_).mono ?_
        · intro i hi4
          match i, hi4 with
          | 0, _ => exact c0
          | 1, _ => exact c1
          | 2, _ => exact hc2
          | 3, _ => exact hc3
        · rintro e w' ⟨rfl, V', hA, hK⟩
          exact ⟨_, W, V', _, rfl, hA, fresh_keeps hi hpos (by unfold cnt; omega), hK, KU.push0 (shr_comes R W L hi.kc) hk0⟩
      · have p3 : 0 < (L 3).count n := List.count_pos_iff.2 (by simpa using hc3)
        refine (ause_was3 n w N a R W V L h hpos hR hw (by omega) hl hc hc2 hc3).mono ?_
        rintro e w' ⟨rfl, V', hA, hK⟩
        refine ⟨_, _, V', _, rfl, hA, again3_keeps (hi.want (by omega) (by omega)) hpos (by omega), hK, ?_⟩
        unfold sAgain
        exact KU.push1 (L1 := upd _ 3 _) ⟨(shr_room _ _ L hi.kc).1, (shr_room _ _ L hi.kc).2⟩ hk0
    · have p2 : 0 < (L 2).count n := List.count_pos_iff.2 (by simpa using hc2)
      refine (ause_was2 n w N a R W V L h hpos hR hw (by omega) hl hc hc2).mono ?_
      rintro e w' ⟨rfl, V', hA, hK⟩
      refine ⟨_, _, V', _, rfl, hA, again2_keeps (hi.want (by omega) (by omega)) hpos (by omega), hK, ?_⟩
      unfold sAgain
      exact KU.push1 (L1 := upd _ 2 _) ⟨(shr_room _ _ L hi.kc).1, (shr_room _ _ L hi.kc).2⟩ hk0
  · refine (ause_has n w N a R W V L h hpos hc (by have := hi.a01; omega) (by have := hi.a01; omega)).mono ?_
    rintro e w' ⟨rfl, V', hA, hK⟩
    have ho := hi.one n
    unfold cnt at ho
    have hs : 0 < (L 0).count n + (L 1).count n := by
      rw [has_kc] at hc
      exact of_decide_eq_true hc
    exact ⟨none, W, V', _, rfl, hA, has_keeps hi (by omega), hK, KU.has⟩
end Go.Proofs.Ytfgmeeponipjeaa
/-
  Items by their blocks, as plain lists: where a block's is, what is laid, what goes. Of no program.
-/

namespace Go.Proofs.Ytfgmeeponipjeaa
open Go.RowKit
set_option linter.unusedVariables false
set_option linter.unusedSimpArgs false

/-- an item of a block -/
structure HI where
  b : Int
  v : Int
  d : ByteArray
instance : Inhabited HI := ⟨⟨0, 0, ⟨#[]⟩⟩⟩
/-- its cells -/
def HI.cs (h : HI) : List Value := [.int .i64 h.b, .int .u64 h.v, .string h.d]
def hCells : List HI → List Value
  | [] => []
  | h :: t => .int .i64 h.b :: .int .u64 h.v :: .string h.d :: hCells t
theorem hCells_length (l : List HI) : (hCells l).length = l.length * 3 := by
  induction l with
  | nil => rfl
  | cons h t ih => simp only [hCells, List.length_cons, ih]; omega
theorem hCells_append (a b : List HI) : hCells (a ++ b) = hCells a ++ hCells b := by
  induction a with
  | nil => rfl
  | cons h t ih => simp only [hCells, List.cons_append, ih]
theorem hCells_one (l : List HI) : ∀ y ∈ hCells l, y.oneCell' = true := by
  induction l with
  | nil => intro y hy; cases hy
  | cons h t ih =>
    intro y hy
    simp only [hCells, List.mem_cons] at hy
    rcases hy with rfl | rfl | rfl | hy
    · rfl
    · rfl
    · rfl
    · exact ih y hy
theorem hCells_take (l : List HI) (k : Nat) : (hCells l).take (k * 3) = hCells (l.take k) := by
  induction l generalizing k with
  | nil => simp [hCells]
  | cons h t ih =>
    cases k with
    | zero => rfl
    | succ k => rw [show (k + 1) * 3 = k * 3 + 1 + 1 + 1 by omega]; simp only [hCells, List.take_succ_cons, ih]
theorem hCells_drop (l : List HI) (k : Nat) : (hCells l).drop (k * 3) = hCells (l.drop k) := by
  induction l generalizing k with
  | nil => simp [hCells]
  | cons h t ih =>
    cases k with
    | zero => rfl
    | succ k => rw [show (k + 1) * 3 = k * 3 + 1 + 1 + 1 by omega]; simp only [hCells, List.drop_succ_cons, ih]
theorem hCells_at (l : List HI) (k : Nat) (x : HI) (hx : l[k]? = some x) : (hCells l)[k * 3]? = some (.int .i64 x.b) ∧ (hCells l)[k * 3 + 1]? = some (.int .u64 x.v) ∧ (hCells l)[k * 3 + 2]? = some (.string x.d) := by
  induction l generalizing k with
  | nil => simp at hx
  | cons h t ih =>
    cases k with
    | zero => simp at hx; subst hx; exact ⟨rfl, rfl, rfl⟩
    | succ k =>
      have := ih k (by simpa using hx)
      rw [show (k + 1) * 3 = k * 3 + 3 by omega]
      simpa [hCells] using this
/-- the cells of the element at k, in a world -/
theorem sr_held {w : World} {a : Option Addr} {len cap : Nat} {l : List HI} (h : SR w (.slice a len cap) 3 len (hCells l)) (k : Nat) (x : HI) (hx : l[k]? = some x) :
    ∃ b off, a = some ⟨b, off, none⟩ ∧ b < w.heap.size ∧ w.cell? ⟨b, off + k * 3, none⟩ = some (.int .i64 x.b) ∧ w.cell? ⟨b, off + k * 3 + 1, none⟩ = some (.int .u64 x.v) ∧ w.cell? ⟨b, off + k * 3 + 2, none⟩ = some (.string x.d) := by
  obtain ⟨a', cap', he, h1, h2, h3, h4⟩ := h
  injection he with e1 _ e2
  subst e1 e2
  have hk := (List.getElem?_eq_some_iff.1 hx).1
  have hl : l.length = len := by rw [hCells_length] at h3; omega
  rcases h4 with h4 | ⟨b, off, rfl, hb, hc⟩
  · omega
  · obtain ⟨c0, c1, c2⟩ := hCells_at l k x hx
    exact ⟨b, off, rfl, hb, hc _ _ c0, by have := hc _ _ c1; rwa [← Nat.add_assoc] at this, by have := hc _ _ c2; rwa [← Nat.add_assoc] at this⟩
/-- the same with one block for all -/
theorem sr_block_held {w : World} {a : Option Addr} {len cap : Nat} {l : List HI} (h : SR w (.slice a len cap) 3 len (hCells l)) (h0 : 0 < len) :
    ∃ b off, a = some ⟨b, off, none⟩ ∧ b < w.heap.size ∧ l.length = len ∧ ∀ k x, l[k]? = some x → w.cell? ⟨b, off + k * 3, none⟩ = some (.int .i64 x.b) ∧ w.cell? ⟨b, off + k * 3 + 1, none⟩ = some (.int .u64 x.v) ∧ w.cell? ⟨b, off + k * 3 + 2, none⟩ = some (.string x.d) := by
  obtain ⟨a', cap', he, h1, h2, h3, h4⟩ := h
  injection he with e1 _ e2
  subst e1 e2
  have hl : l.length = len := by rw [hCells_length] at h3; omega
  rcases h4 with h4 | ⟨b, off, rfl, hb, hc⟩
  · omega
  · refine ⟨b, off, rfl, hb, hl, fun k x hx => ?_⟩
    obtain ⟨c0, c1, c2⟩ := hCells_at l k x hx
    exact ⟨hc _ _ c0, by have := hc _ _ c1; rwa [← Nat.add_assoc] at this, by have := hc _ _ c2; rwa [← Nat.add_assoc] at this⟩

/-- an item that may lie in a set -/
def Good (h : HI) : Prop := 0 ≤ h.b ∧ h.b < 64 ∧ (Lit.int .u64 h.v).wf = true ∧ h.d.size ≤ 40
/-- in order, each block once -/
structure Srt (l : List HI) : Prop where
  pw : l.Pairwise (fun x y => x.b < y.b)
  all : ∀ h ∈ l, Good h
theorem Srt.nil : Srt [] := ⟨List.Pairwise.nil, by simp⟩
theorem srt_len' : ∀ (l : List HI) (k : Int), l.Pairwise (fun x y => x.b < y.b) → (∀ h ∈ l, k ≤ h.b ∧ h.b < 64) → (l.length : Int) ≤ max 0 (64 - k)
  | [], k, _, _ => by simp; omega
  | h :: t, k, hp, ha => by
    rw [List.pairwise_cons] at hp
    have h1 := ha h (by simp)
    have := srt_len' t (h.b + 1) hp.2 (fun x hx => ⟨by have := hp.1 x hx; omega, (ha x (by simp [hx])).2⟩)
    simp only [List.length_cons]
    omega
theorem Srt.len {l : List HI} (h : Srt l) : l.length ≤ 64 := by
  have := srt_len' l 0 h.pw (fun x hx => ⟨(h.all x hx).1, (h.all x hx).2.1⟩)
  omega

/-- a block's item -/
def getL (l : List HI) (b : Int) : Option HI := l.find? (fun h => h.b == b)
/-- with an item, if there is none of its block, or an elder one -/
def layL : List HI → HI → List HI
  | [], x => [x]
  | h :: t, x => if h.b < x.b then h :: layL t x else if h.b = x.b then (if h.v < x.v then x :: t else h :: t) else x :: h :: t
/-- is it laid? -/
def laysL (l : List HI) (x : HI) : Bool := match getL l x.b with | none => true | some h => decide (h.v < x.v)
/-- without a block's item, if it is not newer -/
def dropL (l : List HI) (b v : Int) : List HI := l.filter (fun h => !(h.b == b && decide (h.v ≤ v)))
def dropsL (l : List HI) (b v : Int) : Bool := match getL l b with | none => false | some h => decide (h.v ≤ v)

/-- where a block's place is -/
inductive Split (l : List HI) (b : Int) : Prop
  | no (A B : List HI) (e : l = A ++ B) (hA : ∀ h ∈ A, h.b < b) (hB : ∀ h ∈ B, b < h.b)
  | yes (A : List HI) (x : HI) (B : List HI) (e : l = A ++ x :: B) (hx : x.b = b) (hA : ∀ h ∈ A, h.b < b) (hB : ∀ h ∈ B, b < h.b)
theorem split_of (l : List HI) (b : Int) (hp : l.Pairwise (fun x y => x.b < y.b)) : Split l b := by
  induction l with
  | nil => exact .no [] [] rfl (by simp) (by simp)
  | cons h t ih =>
    rw [List.pairwise_cons] at hp
    by_cases h1 : h.b < b
    · cases ih hp.2 with
      | no A B e hA hB => exact .no (h :: A) B (by rw [e]; rfl) (fun y hy => by rcases List.mem_cons.1 hy with rfl | hy; exact h1; exact hA y hy) hB
      | yes A x B e hx hA hB => exact .yes (h :: A) x B (by rw [e]; rfl) hx (fun y hy => by rcases List.mem_cons.1 hy with rfl | hy; exact h1; exact hA y hy) hB
    · by_cases h2 : h.b = b
      · exact .yes [] h t rfl h2 (by simp) (fun y hy => by have := hp.1 y hy; omega)
      · exact .no [] (h :: t) rfl (by simp) (fun y hy => by rcases List.mem_cons.1 hy with rfl | hy; omega; have := hp.1 y hy; omega)
theorem getL_no {A B : List HI} {b : Int} (hA : ∀ h ∈ A, h.b < b) (hB : ∀ h ∈ B, b < h.b) : getL (A ++ B) b = none := by
  unfold getL
  rw [List.find?_eq_none]
  intro x hx
  simp only [beq_iff_eq]
  rcases List.mem_append.1 hx with h | h
  · have := hA x h; omega
  · have := hB x h; omega
theorem getL_yes {A B : List HI} {x : HI} {b : Int} (hA : ∀ h ∈ A, h.b < b) (hx : x.b = b) : getL (A ++ x :: B) b = some x := by
  unfold getL
  rw [List.find?_append, List.find?_eq_none.2 (fun y hy => by have := hA y hy; simp; omega)]
  simp [hx]
theorem layL_no {A B : List HI} {x : HI} (hA : ∀ h ∈ A, h.b < x.b) (hB : ∀ h ∈ B, x.b < h.b) : layL (A ++ B) x = A ++ x :: B := by
  induction A with
  | nil =>
    cases B with
    | nil => rfl
    | cons y t =>
      have := hB y (by simp)
      simp only [List.nil_append, layL, if_neg (show ¬ y.b < x.b by omega), if_neg (show ¬ y.b = x.b by omega)]
  | cons y t ih =>
    have := hA y (by simp)
    simp only [List.cons_append, layL, if_pos this, ih (fun h hh => hA h (by simp [hh]))]
theorem layL_yes {A B : List HI} {x y : HI} (hA : ∀ h ∈ A, h.b < x.b) (hy : y.b = x.b) : layL (A ++ y :: B) x = A ++ (if y.v < x.v then x else y) :: B := by
  induction A with
  | nil =>
    simp only [List.nil_append, layL, if_neg (show ¬ y.b < x.b by omega), if_pos hy]
    split <;> rfl
  | cons z t ih =>
    have := hA z (by simp)
    simp only [List.cons_append, layL, if_pos this, ih (fun h hh => hA h (by simp [hh]))]
theorem laysL_no {A B : List HI} {x : HI} (hA : ∀ h ∈ A, h.b < x.b) (hB : ∀ h ∈ B, x.b < h.b) : laysL (A ++ B) x = true := by rw [laysL, getL_no hA hB]
theorem laysL_yes {A B : List HI} {x y : HI} (hA : ∀ h ∈ A, h.b < x.b) (hy : y.b = x.b) : laysL (A ++ y :: B) x = decide (y.v < x.v) := by rw [laysL, getL_yes hA hy]
theorem dropL_none {l : List HI} {b v : Int} (h : ∀ x ∈ l, x.b ≠ b) : dropL l b v = l := by
  unfold dropL
  rw [List.filter_eq_self]
  intro x hx
  have := h x hx
  simp [this]
theorem dropL_no {A B : List HI} {b v : Int} (hA : ∀ h ∈ A, h.b < b) (hB : ∀ h ∈ B, b < h.b) : dropL (A ++ B) b v = A ++ B :=
  dropL_none fun x hx => by
    rcases List.mem_append.1 hx with h | h
    · have := hA x h; omega
    · have := hB x h; omega
theorem dropL_yes {A B : List HI} {x : HI} {b v : Int} (hA : ∀ h ∈ A, h.b < b) (hB : ∀ h ∈ B, b < h.b) (hx : x.b = b) : dropL (A ++ x :: B) b v = if x.v ≤ v then A ++ B else A ++ x :: B := by
  have h1 : dropL A b v = A := dropL_none fun x hx => by have := hA x hx; omega
  have h2 : dropL B b v = B := dropL_none fun x hx => by have := hB x hx; omega
  unfold dropL at *
  rw [List.filter_append, List.filter_cons, h1, h2, hx]
  by_cases h : x.v ≤ v <;> simp [h]
theorem dropsL_no {A B : List HI} {b v : Int} (hA : ∀ h ∈ A, h.b < b) (hB : ∀ h ∈ B, b < h.b) : dropsL (A ++ B) b v = false := by rw [dropsL, getL_no hA hB]
theorem dropsL_yes {A B : List HI} {x : HI} {b v : Int} (hA : ∀ h ∈ A, h.b < b) (hx : x.b = b) : dropsL (A ++ x :: B) b v = decide (x.v ≤ v) := by rw [dropsL, getL_yes hA hx]
theorem srt_parts {A B : List HI} {y : HI} (hp : (A ++ y :: B).Pairwise (fun x y => x.b < y.b)) : (∀ h ∈ A, h.b < y.b) ∧ (∀ h ∈ B, y.b < h.b) ∧ A.Pairwise (fun x y => x.b < y.b) ∧ B.Pairwise (fun x y => x.b < y.b) := by
  rw [List.pairwise_append, List.pairwise_cons] at hp
  exact ⟨fun h hh => hp.2.2 h hh y (by simp), hp.2.1.1, hp.1, hp.2.1.2⟩
theorem pw_put {A B : List HI} {x : HI} (hA : ∀ h ∈ A, h.b < x.b) (hB : ∀ h ∈ B, x.b < h.b) (pA : A.Pairwise (fun x y => x.b < y.b)) (pB : B.Pairwise (fun x y => x.b < y.b)) : (A ++ x :: B).Pairwise (fun x y => x.b < y.b) := by
  rw [List.pairwise_append, List.pairwise_cons]
  refine ⟨pA, ⟨hB, pB⟩, fun a ha b hb => ?_⟩
  rcases List.mem_cons.1 hb with rfl | hb
  · exact hA a ha
  · have := hA a ha; have := hB b hb; omega
theorem Srt.lay {l : List HI} {x : HI} (h : Srt l) (hx : Good x) : Srt (layL l x) := by
  cases split_of l x.b h.pw with
  | no A B e hA hB =>
    have hp := h.pw; have ha := h.all
    rw [e] at hp ha ⊢
    rw [layL_no hA hB]
    rw [List.pairwise_append] at hp
    refine ⟨pw_put hA hB hp.1 hp.2.1, fun y hy => ?_⟩
    rcases List.mem_append.1 hy with h | h
    · exact ha y (by simp [h])
    · rcases List.mem_cons.1 h with rfl | h
      · exact hx
      · exact ha y (by simp [h])
  | yes A y B e hy hA hB =>
    have hp := h.pw; have ha := h.all
    rw [e] at hp ha ⊢
    obtain ⟨_, _, pA, pB⟩ := srt_parts hp
    rw [layL_yes hA hy]
    refine ⟨pw_put (by split <;> first | exact hA | (rw [hy]; exact hA)) (by split <;> first | exact hB | (rw [hy]; exact hB)) pA pB, fun z hz => ?_⟩
    rcases List.mem_append.1 hz with h | h
    · exact ha z (by simp [h])
    · rcases List.mem_cons.1 h with h | h
      · subst h
        split
        · exact hx
        · exact ha y (by simp)
      · exact ha z (by simp [h])
theorem Srt.filter {l : List HI} (h : Srt l) (p : HI → Bool) : Srt (l.filter p) := ⟨h.pw.filter p, fun x hx => h.all x (List.mem_filter.1 hx).1⟩
theorem Srt.drop {l : List HI} (h : Srt l) (b v : Int) : Srt (dropL l b v) := h.filter _
end Go.Proofs.Ytfgmeeponipjeaa
