/-
  A journal's records as bytes: what they come to (pure).
-/
import Derived.Test.YtgnnijpfkgmomaaGreatDoorMh3
import Derived.Test.YtgnnijpfkgmomaaGreatDoorMh2
namespace Go.Proofs.YtgnnijpfkgmomaaGreatDoor
open Go.RowKit
set_option linter.unusedVariables false
set_option linter.unusedSimpArgs false

/-- a change: a key has a value, or goes -/
structure JO where
  k : ByteArray
  v : ByteArray
  g : Bool
def bL (s : ByteArray) : List UInt8 := s.data.toList
theorem bL_len (s : ByteArray) : (bL s).length = s.size := by show s.data.toList.length = s.data.size; simp
def textL (s : ByteArray) : List UInt8 := putN s.size ++ bL s
def JO.b (o : JO) : List UInt8 := if o.g then 121 :: textL o.k else 110 :: (textL o.k ++ textL o.v)
def JO.ok (o : JO) : Prop := 1 ≤ o.k.size ∧ o.k.size ≤ 32 ∧ (o.g = false → o.v.size ≤ 8192)
def JO.do (o : JO) (l : List JP) : List JP := if o.g then cutK l o.k else setK l o.k o.v
def runJ (l : List JP) (os : List JO) : List JP := os.foldl (fun l o => o.do l) l
def boolJS (r : RS) : RS := if r.takeB 1 = [] ∨ r.takeB 1 = [110] ∨ r.takeB 1 = [121] then r.takeS 1 else (r.takeS 1).fail 3
def boolJV (r : RS) : Bool := decide (r.takeB 1 = [121])
/-- what a source's records come to; none: they are none -/
def loadR : Nat → RS → List JP → Option (List JP)
  | 0, _, _ => none
  | n + 1, r, l =>
    if r.s = [] then some l
    else
      let r1 := boolJS r
      let k : ByteArray := ⟨(r1.textB 32).toArray⟩
      let r2 := r1.textS 32
      if boolJV r then (if r2.e ≠ 0 ∨ ¬ (1 ≤ k.size ∧ k.size ≤ 32) then none else loadR n r2 (cutK l k))
      else
        let v : ByteArray := ⟨(r2.textB 8192).toArray⟩
        let r3 := r2.textS 8192
        if r3.e ≠ 0 ∨ ¬ (1 ≤ k.size ∧ k.size ≤ 32) then none else loadR n r3 (setK l k v)
theorem text_get (s : ByteArray) (rest : List UInt8) (L : Int) (hL : (s.size : Int) ≤ L) (h16 : s.size ≤ 65536) : (⟨textL s ++ rest, 0⟩ : RS).textB L = bL s ∧ (⟨textL s ++ rest, 0⟩ : RS).textS L = ⟨rest, 0⟩ := by
  have h := text_put (bL s) rest L (by rw [bL_len]; exact hL) (by rw [bL_len]; exact h16)
  rw [bL_len] at h
  exact h
theorem bL_back (s : ByteArray) : (⟨(bL s).toArray⟩ : ByteArray) = s := by cases s; simp [bL]
theorem bool_get (c : UInt8) (rest : List UInt8) (h : c = 110 ∨ c = 121) : boolJS ⟨c :: rest, 0⟩ = ⟨rest, 0⟩ ∧ boolJV ⟨c :: rest, 0⟩ = decide (c = 121) := by
  have h1 : (⟨c :: rest, 0⟩ : RS).takeB 1 = [c] := takeB_ok (c :: rest) 1 (by simp)
  have h2 : (⟨c :: rest, 0⟩ : RS).takeS 1 = ⟨rest, 0⟩ := takeS_ok (c :: rest) 1 (by simp)
  unfold boolJS boolJV
  rw [h1, h2]
  rcases h with rfl | rfl
  · exact ⟨if_pos (.inr (.inl rfl)), by decide⟩
  · exact ⟨if_pos (.inr (.inr rfl)), by decide⟩
theorem load_one (o : JO) (ho : o.ok) (rest : List UInt8) (n : Nat) (l : List JP) : loadR (n + 1) ⟨o.b ++ rest, 0⟩ l = loadR n ⟨rest, 0⟩ (o.do l) := by
  obtain ⟨h1, h2, h3⟩ := ho
  obtain ⟨k, v, g⟩ := o
  have hk := text_get k
  cases g
  · have hb : (⟨k, v, false⟩ : JO).b ++ rest = 110 :: (textL k ++ (textL v ++ rest)) := by show (110 :: (textL k ++ textL v)) ++ rest = _; simp
    rw [hb]
    obtain ⟨b1, b2⟩ := bool_get 110 (textL k ++ (textL v ++ rest)) (.inl rfl)
    obtain ⟨t1, t2⟩ := hk (textL v ++ rest) 32 (by show (k.size : Int) ≤ 32; have : k.size ≤ 32 := h2; omega) (by have : k.size ≤ 32 := h2; omega)
    obtain ⟨u1, u2⟩ := text_get v rest 8192 (by have : v.size ≤ 8192 := h3 rfl; omega) (by have : v.size ≤ 8192 := h3 rfl; omega)
    rw [loadR, if_neg (by simp)]
    simp only [b1, b2, t1, t2, u1, u2, bL_back]
    rw [if_neg (by decide), if_neg (by simp; exact ⟨h1, h2⟩)]
    rfl
  · have hb : (⟨k, v, true⟩ : JO).b ++ rest = 121 :: (textL k ++ rest) := by show (121 :: textL k) ++ rest = _; simp
    rw [hb]
    obtain ⟨b1, b2⟩ := bool_get 121 (textL k ++ rest) (.inr rfl)
    obtain ⟨t1, t2⟩ := hk rest 32 (by show (k.size : Int) ≤ 32; have : k.size ≤ 32 := h2; omega) (by have : k.size ≤ 32 := h2; omega)
    rw [loadR, if_neg (by simp)]
    simp only [b1, b2, t1, t2, bL_back]
    rw [if_pos (by decide), if_neg (by simp; exact ⟨h1, h2⟩)]
    rfl
theorem load_all : ∀ (os : List JO) (n : Nat) (l : List JP), (∀ o ∈ os, o.ok) → os.length < n → loadR n ⟨os.flatMap JO.b, 0⟩ l = some (runJ l os)
  | [], n, l, _, hn => by
    obtain ⟨m, rfl⟩ : ∃ m, n = m + 1 := ⟨n - 1, by simp at hn; omega⟩
    rw [loadR, if_pos (by simp)]
    rfl
  | o :: os, n, l, ho, hn => by
    obtain ⟨m, rfl⟩ : ∃ m, n = m + 1 := ⟨n - 1, by simp at hn; omega⟩
    rw [List.flatMap_cons, load_one o (ho o (List.mem_cons_self ..))]
    exact load_all os m _ (fun x hx => ho x (List.mem_cons_of_mem _ hx)) (by simp at hn; omega)
/-- all pairs, as changes of nothing -/
def allJ (l : List JP) : List JO := l.map fun p => ⟨p.k, p.v, false⟩
theorem set_last {l : List JP} {k v : ByteArray} (h : ∀ p ∈ l, ltK p.k k = true) : setK l k v = l ++ [⟨k, v⟩] := by
  unfold setK ahK beK
  rw [List.filter_eq_self.2 h, List.filter_eq_nil_iff.2 fun p hp hc => by
    have := ltK_trans (h p hp) hc
    rw [ltK_irr] at this
    cases this]
theorem run_all : ∀ (l pre : List JP), Srt (pre ++ l) → runJ pre (allJ l) = pre ++ l
  | [], pre, _ => by rw [List.append_nil]; rfl
  | p :: l, pre, h => by
    have hs : setK pre p.k p.v = pre ++ [p] := set_last fun x hx => (List.pairwise_append.1 h).2.2 x hx p (List.mem_cons_self ..)
    show runJ (setK pre p.k p.v) (allJ l) = _
    rw [hs, run_all l (pre ++ [p]) (by simpa using h)]
    simp
theorem srt_run : ∀ (os : List JO) (l : List JP), Srt l → Srt (runJ l os)
  | [], l, h => h
  | o :: os, l, h => by
    refine srt_run os _ ?_
    show Srt (if o.g = true then cutK l o.k else setK l o.k o.v)
    split
    · exact srt_cut h _
    · exact srt_set h _ _
theorem run_appJ (l : List JP) (a b : List JO) : runJ l (a ++ b) = runJ (runJ l a) b := by unfold runJ; rw [List.foldl_append]
theorem run_ok {os : List JO} (ho : ∀ o ∈ os, o.ok) : ∀ {l : List JP}, (∀ p ∈ l, 1 ≤ p.k.size ∧ p.k.size ≤ 32 ∧ p.v.size ≤ 8192) → ∀ p ∈ runJ l os, 1 ≤ p.k.size ∧ p.k.size ≤ 32 ∧ p.v.size ≤ 8192 := by
  induction os with
  | nil => exact fun h => h
  | cons o os ih =>
    intro l h
    refine ih (fun x hx => ho x (List.mem_cons_of_mem _ hx)) fun p hp => ?_
    have hoo := ho o (List.mem_cons_self ..)
    replace hp : p ∈ (if o.g = true then cutK l o.k else setK l o.k o.v) := hp
    split at hp
    · rcases List.mem_append.1 hp with q | q
      · exact h p (List.mem_filter.1 q).1
      · exact h p (List.mem_filter.1 q).1
    · rename_i hg
      rcases List.mem_append.1 hp with q | q
      · exact h p (List.mem_filter.1 q).1
      · rcases List.mem_cons.1 q with rfl | q
        · exact ⟨hoo.1, hoo.2.1, hoo.2.2 (by simpa using hg)⟩
        · exact h p (List.mem_filter.1 q).1
/-- how many bytes all pairs have as records -/
def sizeJ (l : List JP) : Nat := ((allJ l).flatMap JO.b).length
theorem size_set {l : List JP} (h : Srt l) (k v : ByteArray) : sizeJ (setK l k v) + (match l[ixK l k]? with | some p => if p.k = k then (JO.b ⟨p.k, p.v, false⟩).length else 0 | none => 0) = sizeJ l + (JO.b ⟨k, v, false⟩).length := by
  have hs : ∀ a b : List JP, sizeJ (a ++ b) = sizeJ a + sizeJ b := fun a b => by unfold sizeJ allJ; rw [List.map_append, List.flatMap_append, List.length_append]
  have hc : ∀ (p : JP) (b : List JP), sizeJ (p :: b) = (JO.b ⟨p.k, p.v, false⟩).length + sizeJ b := fun p b => by unfold sizeJ allJ; rw [List.map_cons, List.flatMap_cons, List.length_append]
  unfold setK
  rw [hs, hc]
  obtain ⟨hp, ⟨q1, q2⟩ | ⟨x, q1, q2⟩⟩ := srt_place h k
  · have hn : (match l[ixK l k]? with | some p => if p.k = k then (JO.b ⟨p.k, p.v, false⟩).length else 0 | none => 0) = 0 := by
      cases hl : l[ixK l k]? with
      | none => rfl
      | some p => exact if_neg (q2 p (List.mem_of_getElem? hl))
    rw [hn]
    have e : sizeJ l = sizeJ (ahK l k) + sizeJ (beK l k) := by
      have e0 := List.take_append_drop (ixK l k) l
      rw [hp, q1] at e0
      rw [← hs, e0]
    rw [e]
    show _ + ((JO.b ⟨k, v, false⟩).length + _) + 0 = _
    omega
  · have e : sizeJ l = sizeJ (ahK l k) + ((JO.b ⟨k, x, false⟩).length + sizeJ (beK l k)) := by
      have e0 := List.take_append_drop (ixK l k) l
      obtain ⟨hl, e1⟩ := List.getElem?_eq_some_iff.1 q1
      rw [List.drop_eq_getElem_cons hl, e1, hp, q2] at e0
      rw [← hc ⟨k, x⟩, ← hs, e0]
    rw [e, q1]
    simp only [if_true]
    show _ + ((JO.b ⟨k, v, false⟩).length + _) + (JO.b ⟨k, x, false⟩).length = _
    omega
end Go.Proofs.YtgnnijpfkgmomaaGreatDoor
