/-
  Frames of at most so many bytes, one behind the other, come back (pure; XFrmF's with another bound).
-/
import Derived.Test.YtkdmnhmlkcejfaaDoorFrmE
import Derived.Test.YtkdmnhmlkcejfaaDoorFits
namespace Go.Proofs.YtkdmnhmlkcejfaaDoor
open Go.RowKit
set_option linter.unusedVariables false
set_option linter.unusedSimpArgs false

theorem frm_back2 {t rest : List UInt8} (h : t.length ≤ 16384) : (⟨frameB t ++ rest, 0⟩ : RS).frmB = t ∧ (⟨frameB t ++ rest, 0⟩ : RS).frmS = ⟨rest, 0⟩ := by
  have hf : frameB t = putN t.length ++ t ++ beN 4 (ofN t) := by unfold frameB; rw [if_neg (by omega)]
  obtain ⟨h1, h2⟩ := text_put t (beN 4 (ofN t) ++ rest) 16384 (by omega) (by omega)
  obtain ⟨h3, h4⟩ := word_put (ofN t) (ofN_le t) rest
  have e : frameB t ++ rest = putN t.length ++ t ++ (beN 4 (ofN t) ++ rest) := by rw [hf, List.append_assoc]
  have hs : (⟨frameB t ++ rest, 0⟩ : RS).frmS = ⟨rest, 0⟩ := by
    unfold RS.frmS RS.frm2
    rw [e, h1, h2, h3, h4, if_neg (fun q => q.2 rfl)]
  refine ⟨?_, hs⟩
  unfold RS.frmB
  rw [hs, if_neg (by simp), e, h1]
theorem frame_len {t : List UInt8} (h : t.length ≤ 1100) : 0 < (frameB t).length ∧ (frameB t).length ≤ 1113 := by
  have hf : frameB t = putN t.length ++ t ++ beN 4 (ofN t) := by unfold frameB; rw [if_neg (by omega)]
  have h1 := putN_length t.length (by omega)
  have h2 := beN_length 4 (ofN t)
  rw [hf]
  simp only [List.length_append, h2]
  omega
def laidF (ts : List (List UInt8)) : List UInt8 := ts.flatMap frameB
theorem laidF_len {ts : List (List UInt8)} (h : ∀ t ∈ ts, t.length ≤ 1100) : (laidF ts).length ≤ 1113 * ts.length := by
  induction ts with
  | nil => simp [laidF]
  | cons t r ih =>
    have h1 := (frame_len (h t (by simp))).2
    have h2 := ih fun x hx => h x (by simp [hx])
    simp only [laidF, List.flatMap_cons, List.length_append, List.length_cons] at *
    omega
theorem it_laid {ts : List (List UInt8)} {tl : List UInt8} (h : ∀ t ∈ ts, t.length ≤ 1100) : ∀ j, j ≤ ts.length → itF (laidF ts ++ tl) j = ⟨laidF (ts.drop j) ++ tl, 0⟩
  | 0, _ => rfl
  | j + 1, hj => by
    have ih := it_laid (tl := tl) h j (by omega)
    obtain ⟨t, ht⟩ : ∃ t, ts[j]? = some t := ⟨_, List.getElem?_eq_getElem (by omega)⟩
    have hd : ts.drop j = t :: ts.drop (j + 1) := by
      obtain ⟨hlt, e⟩ := List.getElem?_eq_some_iff.1 ht
      rw [List.drop_eq_getElem_cons hlt, e]
    show (itF (laidF ts ++ tl) j).frmS = _
    rw [ih, hd]
    have : laidF (t :: ts.drop (j + 1)) ++ tl = frameB t ++ (laidF (ts.drop (j + 1)) ++ tl) := by simp [laidF]
    rw [this]
    exact (frm_back2 (by have := h t (List.mem_of_getElem? ht); omega)).2
theorem it_text {ts : List (List UInt8)} {tl : List UInt8} (h : ∀ t ∈ ts, t.length ≤ 1100) {j : Nat} {t : List UInt8} (ht : ts[j]? = some t) : (itF (laidF ts ++ tl) j).frmB = t ∧ (itF (laidF ts ++ tl) j).s ≠ [] := by
  obtain ⟨hlt, e⟩ := List.getElem?_eq_some_iff.1 ht
  have hd : ts.drop j = t :: ts.drop (j + 1) := by rw [List.drop_eq_getElem_cons hlt, e]
  rw [it_laid h j (by omega), hd]
  have : laidF (t :: ts.drop (j + 1)) ++ tl = frameB t ++ (laidF (ts.drop (j + 1)) ++ tl) := by simp [laidF]
  rw [this]
  have h60 := h t (List.mem_of_getElem? ht)
  refine ⟨(frm_back2 (by omega)).1, fun q => ?_⟩
  have h1 := (frame_len h60).1
  have h2 := congrArg List.length q
  simp at h2
  rw [h2.1] at h1
  simp at h1
theorem go_laid {ts : List (List UInt8)} {tl : List UInt8} (h : ∀ t ∈ ts, t.length ≤ 1100) : GoF (laidF ts ++ tl) ts.length := fun j hj => by
  obtain ⟨t, ht⟩ : ∃ t, ts[j]? = some t := ⟨_, List.getElem?_eq_getElem hj⟩
  exact ⟨(it_text h ht).2, by rw [it_laid h (j + 1) hj]⟩
theorem st_more {ts : List (List UInt8)} {tl : List UInt8} (h : ∀ t ∈ ts, t.length ≤ 1100) {n : Nat} (hs : StF (laidF ts ++ tl) n) : ts.length ≤ n := by
  rcases Nat.lt_or_ge n ts.length with q | q
  · obtain ⟨h1, h2⟩ := go_laid (tl := tl) h n q
    rcases hs with r | r
    · exact absurd r h1
    · exact absurd h2 r
  · exact q
theorem got_laid {ts : List (List UInt8)} {tl : List UInt8} (h : ∀ t ∈ ts, t.length ≤ 1100) {n : Nat} (hn : ts.length ≤ n) : gotF (laidF ts ++ tl) n = ts ++ (gotF (laidF ts ++ tl) n).drop ts.length := by
  conv => lhs; rw [← List.take_append_drop ts.length (gotF (laidF ts ++ tl) n)]
  congr 1
  refine List.ext_getElem? fun i => ?_
  rcases Nat.lt_or_ge i ts.length with q | q
  · obtain ⟨t, ht⟩ : ∃ t, ts[i]? = some t := ⟨_, List.getElem?_eq_getElem q⟩
    rw [ht, List.getElem?_take, if_pos q]
    unfold gotF
    rw [List.getElem?_map, List.getElem?_range (by omega)]
    simp only [Option.map_some]
    rw [(it_text h ht).1]
  · rw [List.getElem?_eq_none (by simp; omega), List.getElem?_eq_none (by omega)]
end Go.Proofs.YtkdmnhmlkcejfaaDoor
