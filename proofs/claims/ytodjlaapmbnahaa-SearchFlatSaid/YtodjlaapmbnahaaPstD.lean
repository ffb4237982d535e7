/-
  past: the parts of what was asked for; what a history did with a block, as a list.
-/
import Derived.Test.YtodjlaapmbnahaaPstC
import Derived.Test.YtodjlaapmbnahaaNeedB
namespace Go.Proofs.Ytodjlaapmbnahaa
open Go.RowKit
set_option linter.unusedVariables false
set_option linter.unusedSimpArgs false

theorem flat_get {α : Type} {c : α → List Value} {sz : Nat} (hc : ∀ x, (c x).length = sz) : ∀ (l : List α) (j : Nat) (x : α), l[j]? = some x → ∀ (k : Nat) v, (c x)[k]? = some v → (l.flatMap c)[j * sz + k]? = some v
  | [], j, t, h, _, _, _ => by simp at h
  | x :: r, 0, t, h, k, v, hv => by
    simp at h
    subst h
    have hk : k < (c x).length := (List.getElem?_eq_some_iff.1 hv).1
    rw [List.flatMap_cons, Nat.zero_mul, Nat.zero_add, List.getElem?_append_left hk]
    exact hv
  | x :: r, j + 1, t, h, k, v, hv => by
    rw [List.flatMap_cons, List.getElem?_append_right (by rw [hc x, Nat.succ_mul]; omega), hc x]
    rw [show (j + 1) * sz + k - sz = j * sz + k by rw [Nat.succ_mul]; omega]
    exact flat_get hc r j t (by simpa using h) k v hv
theorem elts_sr {α : Type} {c : α → List Value} {sz : Nat} (hc : ∀ x, (c x).length = sz) {w : World} {v : Value} {rs : List α} (h : SR w v sz rs.length (rs.flatMap c)) : Elts w c sz v rs := by
  obtain ⟨a, cap, rfl, h1, h2, h3, h4⟩ := h
  refine ⟨a, cap, rfl, h1, h2, h4.imp id ?_⟩
  rintro ⟨b, off, rfl, hb, hcell⟩
  refine ⟨b, off, rfl, hb, fun j x hj k u hk => ?_⟩
  have := hcell (j * sz + k) u (flat_get hc rs j x hj k u hk)
  rwa [← Nat.add_assoc] at this
theorem own_typeP {w : World} {base g : Nat} {e : TypeId} {size n : Nat} {v : Value} {xs : List Value} (h : w.ownsRow base e size v n xs) (hv : v.ownBlock = some g) : ∃ cur, w.heap[g]? = some (.cells cur e (0, 0)) := by
  rcases h.2 with ⟨rfl, -⟩ | ⟨b, cap, cur, rfl, hb, hg, -⟩
  · cases hv
  · injection hv with hv
    subst hv
    exact ⟨cur, hg⟩
/-- a block of another type stays where a row of the call's own grows -/
theorem keep_typed {w w' : World} {base g : Nat} {e t : TypeId} {size n : Nat} {v : Value} {xs : List Value} {A : Array Value} {fr : Nat × Nat} (h : w.ownsRow base e size v n xs) (hg : w.grownBy w' v.ownBlock) (ho : w.heap[g]? = some (.cells A t fr)) (hne : e ≠ t) : w'.heap[g]? = some (.cells A t fr) := by
  refine (hg.block g (lt_heap ho) fun q => ?_).trans ho
  obtain ⟨cur, hc⟩ := own_typeP h q.symm
  rw [ho] at hc
  injection hc with hc
  injection hc with _ hc
  exact hne hc.symm
theorem keep_map {w w' : World} {base g : Nat} {e : TypeId} {size n : Nat} {v : Value} {xs : List Value} {es : Array MapEntry} {c : Nat} (h : w.ownsRow base e size v n xs) (hg : w.grownBy w' v.ownBlock) (ho : w.heap[g]? = some (.map es c)) : w'.heap[g]? = w.heap[g]? := by
  refine hg.block g (lt_heap ho) fun q => ?_
  obtain ⟨cur, hc⟩ := own_typeP h q.symm
  rw [ho] at hc
  cases hc
theorem Elts.move {α : Type} {w w' : World} {c : α → List Value} {sz : Nat} {v : Value} {rs : List α} (h : Elts w c sz v rs) (hs : w.heap.size ≤ w'.heap.size) (hk : ∀ g, v.ownBlock = some g → w'.heap[g]? = w.heap[g]?) : Elts w' c sz v rs := by
  obtain ⟨a, cap, rfl, h1, h2, h3⟩ := h
  refine ⟨a, cap, rfl, h1, h2, h3.imp id ?_⟩
  rintro ⟨b, off, rfl, hlt, hc⟩
  refine ⟨b, off, rfl, Nat.lt_of_lt_of_le hlt hs, fun j x hj k u hk' => ?_⟩
  have := hc j x hj k u hk'
  simp only [World.cell?] at this ⊢
  rw [hk b rfl]
  exact this
/-- a part -/
structure Pt where
  b : Int
  wr : Bool
  d : ByteArray
def Pt.c (p : Pt) : List Value := [.int .i64 p.b, .bool p.wr, .string p.d]
def evParts (W A L : Int) (D : ByteArray) (B : Int) : List Pt :=
  if W ≠ 3 ∧ AskMay W A L D B then (List.range (askSz W L D / 32).toNat).map (fun k => ⟨(((A / 32).toNat + k : Nat) : Int), !(W == 0), partD W D k⟩) else []
theorem evparts_len (W A L : Int) (D : ByteArray) (B : Int) : (evParts W A L D B).length ≤ 4 := by
  unfold evParts
  split
  · rename_i h
    have hin : Inside A (askSz W L D) B := h.2.elim (fun q => absurd q h.1) (fun q => q.2.2)
    unfold Inside at hin
    simp
    omega
  · simp
def PPartsP (rs : List Pt) (w : World) (e : Ending) (w' : World) : Prop := ∃ v, e = .returned v ∧ Elts w' Pt.c 3 v rs ∧ (∀ g, v.ownBlock = some g → ∃ A fr, w'.heap[g]? = some (.cells A 89 fr)) ∧ Below w.heap.size w w'
theorem pparts (W A L : Int) (D : ByteArray) (S : Bool) (B : Int) (w : World) (hA : (Lit.int .i64 A).wf = true) (hL : (Lit.int .i64 L).wf = true) (hD : D.size ≤ maxLen) :
    Calls Try.prog 28 #[.agg #[.int .i64 W, .int .i64 A, .int .i64 L, .string D, .bool S], .int .i64 B] w (PPartsP (evParts W A L D B) w) := by
  by_cases h : W ≠ 3 ∧ AskMay W A L D B
  · have hin : Inside A (askSz W L D) B := h.2.elim (fun q => absurd q h.1) (fun q => q.2.2)
    unfold Inside at hin
    obtain ⟨q, hq⟩ : ∃ q : Nat, A = ((32 * q : Nat) : Int) := ⟨(A / 32).toNat, by omega⟩
    obtain ⟨m, hm⟩ : ∃ m : Nat, askSz W L D = ((32 * m : Nat) : Int) := ⟨(askSz W L D / 32).toNat, by omega⟩
    have e : evParts W A L D B = (List.range m).map (fun k => ⟨((q + k : Nat) : Int), !(W == 0), partD W D k⟩) := by
      unfold evParts
      rw [if_pos h, show (askSz W L D / 32).toNat = m by omega, show (A / 32).toNat = q by omega]
    rw [e]
    clear e hin
    subst hq
    refine (nparts W L q m D S B w hL hD h.1 h.2 hm).mono ?_
    rintro ev w' ⟨v, rfl, ho, hb⟩
    refine ⟨v, rfl, elts_sr (c := Pt.c) (sz := 3) (fun x => rfl) ?_, fun g e => ⟨_, _, (own_typeP ho e).choose_spec⟩, hb⟩
    have := SR.owns ho
    rw [show partsL W q D m = ((List.range m).map (fun k => (⟨((q + k : Nat) : Int), !(W == 0), partD W D k⟩ : Pt))).flatMap Pt.c by rw [List.flatMap_map]; rfl] at this
    simpa using this
  · have e : evParts W A L D B = [] := by unfold evParts; rw [if_neg h]
    rw [e]
    refine (nparts_no W A L D S B w hA hL hD (by by_cases q : W = 3; exact .inl q; exact .inr (fun r => h ⟨q, r⟩))).mono ?_
    rintro ev w' ⟨rfl, hb⟩
    exact ⟨_, rfl, ⟨none, 0, rfl, Nat.le_refl _, Nat.zero_le _, .inl rfl⟩, (fun g e => by cases e), hb⟩
/-- a use -/
structure Us where
  wr : Bool
  val : ByteArray
  from_ : Int
  til : Int
def Us.c (u : Us) : List Value := [.bool u.wr, .string u.val, .int .i64 u.from_, .int .i64 u.til]
def uC (l : List Us) : List Value := l.flatMap Us.c
theorem uC_app (a b : List Us) : uC (a ++ b) = uC a ++ uC b := by simp [uC]
theorem uC_one (l : List Us) : ∀ y ∈ uC l, y.oneCell' = true := by
  intro y hy
  simp only [uC, List.mem_flatMap] at hy
  obtain ⟨u, hu, hy⟩ := hy
  simp only [Us.c, List.mem_cons, List.not_mem_nil, or_false] at hy
  rcases hy with rfl | rfl | rfl | rfl <;> rfl
/-- what the k-th part of the i-th event did with a block -/
def usePt (E : List Ev) (o : Option Nat) (block : Int) (i k : Nat) (p : Pt) : List Us :=
  if p.b = block then (if (useS E o k p.wr p.d).2.2.2 then [⟨(useS E o k p.wr p.d).1, (useS E o k p.wr p.d).2.1, i, (useS E o k p.wr p.d).2.2.1⟩] else []) else []
def useEv (E : List Ev) (o : Option Nat) (block : Int) (i : Nat) (ps : List Pt) (n : Nat) : List Us := (List.range n).flatMap (fun k => match ps[k]? with | some p => usePt E o block i k p | none => [])
def Ev.parts (x : Ev) (B : Int) : List Pt := evParts x.what x.at_ x.len x.data B
def usesAt (E : List Ev) (B block : Int) (i : Nat) : List Us := match E[i]? with
  | some x => if x.ans then [] else useEv E (told E x.id) block i (x.parts B) (x.parts B).length
  | none => []
/-- what the first n events did with a block -/
def usesN (E : List Ev) (B block : Int) (n : Nat) : List Us := (List.range n).flatMap (usesAt E B block)
theorem useev_next {E : List Ev} {o : Option Nat} {block : Int} {i n : Nat} {ps : List Pt} {p : Pt} (h : ps[n]? = some p) : useEv E o block i ps (n + 1) = useEv E o block i ps n ++ usePt E o block i n p := by
  unfold useEv
  rw [List.range_succ, List.flatMap_append]
  simp [h]
theorem uses_next (E : List Ev) (B block : Int) (n : Nat) : usesN E B block (n + 1) = usesN E B block n ++ usesAt E B block n := by
  unfold usesN
  rw [List.range_succ, List.flatMap_append]
  simp
theorem usept_len (E : List Ev) (o : Option Nat) (block : Int) (i k : Nat) (p : Pt) : (usePt E o block i k p).length ≤ 1 := by
  unfold usePt
  split
  · split <;> simp
  · simp
theorem useev_len (E : List Ev) (o : Option Nat) (block : Int) (i : Nat) (ps : List Pt) : ∀ n, (useEv E o block i ps n).length ≤ n
  | 0 => by simp [useEv]
  | n + 1 => by
    have ih := useev_len E o block i ps n
    cases h : ps[n]? with
    | some p =>
      rw [useev_next h, List.length_append]
      have := usept_len E o block i n p
      omega
    | none =>
      unfold useEv at ih ⊢
      rw [List.range_succ, List.flatMap_append, List.length_append]
      simp [h] at ih ⊢
      omega
theorem usesat_len (E : List Ev) (B block : Int) (i : Nat) : (usesAt E B block i).length ≤ 4 := by
  unfold usesAt
  split
  · rename_i x _
    split
    · simp
    · exact Nat.le_trans (useev_len ..) (evparts_len ..)
  · simp
theorem uses_len (E : List Ev) (B block : Int) : ∀ n, (usesN E B block n).length ≤ 4 * n
  | 0 => by simp [usesN]
  | n + 1 => by
    rw [uses_next, List.length_append]
    have := uses_len E B block n
    have := usesat_len E B block n
    omega
end Go.Proofs.Ytodjlaapmbnahaa
