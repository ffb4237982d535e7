/-
  A block's values and their spans, as lists; the map of places.
-/
import Derived.Test.YtodjlaapmbnahaaPstE
import Derived.Maps.OwnSet
namespace Go.Proofs.Ytodjlaapmbnahaa
open Go.RowKit
open Go.Maps (Keyed)
set_option linter.unusedVariables false
set_option linter.unusedSimpArgs false

def NV : Int := 1073741824
/-- a value's span, and where it was asked to be written -/
structure Sp where
  val : ByteArray
  e : Int
  b : Int
  wr : Int
def Sp.c (s : Sp) : List Value := [.string s.val, .int .i64 s.e, .int .i64 s.b]
def sC (l : List Sp) : List Value := l.flatMap Sp.c
def Sp.upd (s : Sp) (u : Us) : Sp := ⟨s.val, min s.e u.til, max s.b u.from_, if u.wr then u.from_ else s.wr⟩
def spIx (l : List Sp) (v : ByteArray) : Option Nat := l.findIdx? (fun s => decide (s.val = v))
/-- with the value; where it stands -/
def withV (l : List Sp) (v : ByteArray) : List Sp := match spIx l v with
  | some _ => l
  | none => l ++ [⟨v, NV, -1, NV⟩]
def ixV (l : List Sp) (v : ByteArray) : Nat := match spIx l v with
  | some i => i
  | none => l.length
def isW (l : List Sp) (i : Nat) : Bool := match l[i]? with
  | some s => decide (s.wr ≠ NV)
  | none => false
def spStep (l : List Sp) (u : Us) : Option (List Sp) :=
  if u.wr && isW (withV l u.val) (ixV l u.val) then none else some ((withV l u.val).modify (ixV l u.val) (fun s => s.upd u))
def spansL : List Sp → List Us → Option (List Sp)
  | l, [] => some l
  | l, u :: r => match spStep l u with
    | none => none
    | some l' => spansL l' r
theorem spans_app : ∀ (us : List Us) (l : List Sp) (u : Us), spansL l (us ++ [u]) = match spansL l us with
    | none => none
    | some l' => spStep l' u
  | [], l, u => by
    show spansL l [u] = spStep l u
    rw [spansL]
    cases spStep l u <;> rfl
  | x :: us, l, u => by
    show spansL l (x :: (us ++ [u])) = _
    rw [spansL, spansL]
    cases spStep l x with
    | none => rfl
    | some l' => exact spans_app us l' u
theorem spans_none : ∀ (us : List Us) (l : List Sp) (r : List Us), spansL l us = none → spansL l (us ++ r) = none
  | [], l, r, h => by cases h
  | x :: us, l, r, h => by
    show spansL l (x :: (us ++ r)) = none
    rw [spansL] at h ⊢
    cases hs : spStep l x with
    | none => rfl
    | some l' => rw [hs] at h; exact spans_none us l' r h
theorem ix_lt (l : List Sp) (v : ByteArray) : ixV l v < (withV l v).length := by
  unfold ixV withV
  cases h : spIx l v with
  | none => simp
  | some i =>
    simp only
    exact (List.findIdx?_eq_some_iff_getElem.1 h).1
theorem spix_app (l : List Sp) (v : ByteArray) (h : spIx l v = none) (e b wr : Int) (z : ByteArray) : spIx (l ++ [⟨v, e, b, wr⟩]) z = if z = v then some l.length else spIx l z := by
  unfold spIx at h ⊢
  rw [List.findIdx?_append]
  by_cases hz : z = v
  · subst hz
    rw [if_pos rfl, h]
    simp [List.findIdx?_cons]
  · rw [if_neg hz]
    cases hs : l.findIdx? (fun s => decide (s.val = z)) with
    | some i => rfl
    | none => simp [List.findIdx?_cons, Ne.symm hz]
theorem spix_vals {l l' : List Sp} (h : l.map Sp.val = l'.map Sp.val) (z : ByteArray) : spIx l z = spIx l' z := by
  have e : ∀ l : List Sp, spIx l z = (l.map Sp.val).findIdx? (fun v => decide (v = z)) := fun l => by
    unfold spIx
    rw [List.findIdx?_map]
    rfl
  rw [e, e, h]
theorem vals_modify (l : List Sp) (i : Nat) (u : Us) : (l.modify i (fun s => s.upd u)).map Sp.val = l.map Sp.val := by
  apply List.ext_getElem?
  intro k
  rw [List.getElem?_map, List.getElem?_map, List.getElem?_modify]
  split <;> cases l[k]? <;> rfl
theorem sp_len {l l' : List Sp} {u : Us} (h : spStep l u = some l') : l'.length ≤ l.length + 1 := by
  unfold spStep at h
  split at h
  · cases h
  · cases h
    rw [List.length_modify]
    unfold withV
    split <;> simp
theorem spans_len : ∀ (us : List Us) (l l' : List Sp), spansL l us = some l' → l'.length ≤ l.length + us.length
  | [], l, l', h => by cases h; simp
  | u :: us, l, l', h => by
    rw [spansL] at h
    cases hs : spStep l u with
    | none => rw [hs] at h; cases h
    | some m =>
      rw [hs] at h
      have := spans_len us m l' h
      have := sp_len hs
      simp
      omega
/-- places, in a map -/
theorem keyS : Keyed Try.prog 9 := Go.Maps.string_keyed Try.underlying9
noncomputable def plS : Value → Option (DataW Unit × List MemPlace) := plainElem Try.prog 3
def Place (w : World) (b n : Nat) (l : List Sp) : Prop := ∃ D, w.ownsMap Try.prog 9 plS b n D ∧ (∀ z : ByteArray, Maps.has D (.string z.data.toList) = (spIx l z).isSome) ∧ ∀ (z : ByteArray) i, spIx l z = some i → D.atKey (.string z.data.toList) (.lit (.int .i64 0)) = .lit (.int .i64 (i : Int))
theorem Place.lt {w : World} {b n : Nat} {l : List Sp} (h : Place w b n l) : b < w.heap.size := let ⟨_, h, _⟩ := h; h.lt
theorem Place.move {w w' : World} {b n : Nat} {l : List Sp} (h : Place w b n l) (e : w'.heap[b]? = w.heap[b]?) : Place w' b n l := by
  obtain ⟨D, ⟨es, clock, hb, F⟩, hD⟩ := h
  exact ⟨D, ⟨es, clock, e.trans hb, F⟩, hD⟩
theorem Place.below {w w' : World} {b n : Nat} {l : List Sp} (h : Place w b n l) (hb : Below w.heap.size w w') : Place w' b n l := h.move (hb.block b h.lt)
theorem Place.vals {w : World} {b n : Nat} {l l' : List Sp} (h : Place w b n l) (e : l.map Sp.val = l'.map Sp.val) : Place w b n l' := by
  obtain ⟨D, h1, h2, h3⟩ := h
  exact ⟨D, h1, fun z => by rw [← spix_vals e z]; exact h2 z, fun z i hi => h3 z i (by rw [spix_vals e z]; exact hi)⟩
theorem bytes_inj {a b : ByteArray} (h : a.data.toList = b.data.toList) : a = b := by
  cases a with
  | mk a => cases b with
    | mk b => simp at h; rw [h]
set_option maxRecDepth 100000 in
theorem Place.look {w : World} {b n : Nat} {l : List Sp} (h : Place w b n l) (z : ByteArray) (hz : z.size ≤ maxLen) :
    ∃ c : Int, (Instr.lookup 81 (.map (some b)) (.string z) true).run Try.prog w = .ok (.tuple #[.int .i64 c, .bool (spIx l z).isSome]) w ∧ ∀ i, spIx l z = some i → c = i := by
  obtain ⟨D, hm, h2, h3⟩ := h
  obtain ⟨v, ps, h4, h5⟩ := hm.look_ok keyS Try.underlying81 (z := .int .i64 0) (by kernel_rfl) (plainElem_int (H := Unit) Try.underlying3 (show (Lit.int .i64 0).wf = true by decide)) (WideMaps.keyOf_string_mk Try.underlying9 hz)
  obtain ⟨c, rfl, e, -⟩ := plainElem_int_inv Try.underlying3 h5
  refine ⟨c, by rw [← h2 z]; exact h4, fun i hi => ?_⟩
  have e1 := congrArg Prod.fst e
  simp only at e1
  rw [h3 z i hi] at e1
  injection e1 with e1
  injection e1 with _ e1
  exact e1.symm
set_option maxRecDepth 100000 in
theorem Place.store {w : World} {b n : Nat} {l : List Sp} (h : Place w b n l) (v : ByteArray) (hv : v.size ≤ maxLen) (hno : spIx l v = none) (hn : n < maxLen) (hl : l.length ≤ 100000) (e bb wr : Int) :
    ∃ w', (Instr.mapUpdate 81 (.map (some b)) (.string v) (.int .i64 (l.length : Int))).run Try.prog w = .ok () w' ∧ Place w' b (n + 1) (l ++ [⟨v, e, bb, wr⟩]) ∧ w.grownBy w' (some b) := by
  obtain ⟨D, hm, h2, h3⟩ := h
  obtain ⟨w', h4, h5, h6⟩ := hm.update keyS Try.underlying81 hn (WideMaps.keyOf_string_mk Try.underlying9 hv) (plainElem_int (H := Unit) Try.underlying3 (show (Lit.int .i64 (l.length : Int)).wf = true from wf_of (by omega)))
  have hne : ∀ z : ByteArray, z ≠ v → (Lit.string z.data.toList) ≠ Lit.string v.data.toList := fun z hz e => by injection e with e; exact hz (bytes_inj e)
  refine ⟨w', h4, ⟨_, h5, fun z => ?_, fun z i hi => ?_⟩, h6⟩
  · rw [spix_app l v hno]
    by_cases hz : z = v
    · subst hz
      rw [if_pos rfl, Maps.has_put_same hm.isMap (by trivial)]; rfl
    · rw [if_neg hz, Maps.has_put_other (hne z hz), h2 z]
  · rw [spix_app l v hno] at hi
    by_cases hz : z = v
    · subst hz
      rw [if_pos rfl] at hi
      cases hi
      rw [Maps.atKey_put_same hm.isMap (by trivial)]
    · rw [if_neg hz] at hi
      rw [Maps.atKey_put_other (hne z hz)]
      exact h3 z i hi
theorem place_made (w : World) : Place (w.alloc (.map #[] 0)) w.heap.size 0 [] := ⟨_, World.ownsMap_made (H := Unit) w Try.prog 9 plS, fun z => rfl, fun z i h => by cases h⟩
end Go.Proofs.Ytodjlaapmbnahaa
