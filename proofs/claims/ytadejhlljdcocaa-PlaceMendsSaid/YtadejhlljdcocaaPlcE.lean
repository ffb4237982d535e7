/-
  place.Mend: what fill makes of lists (pure part).
-/
import Derived.Test.YtadejhlljdcocaaPlcD
namespace Go.Proofs.Ytadejhlljdcocaa
set_option linter.unusedVariables false
set_option linter.unusedSimpArgs false

def f1 (up : List Int) (many : Nat) (l : List Int) (n : Int) : List Int := if l.length < many ∧ n ∈ up ∧ n ∉ l then l ++ [n] else l
def f2 (many : Nat) (l : List Int) (n : Int) : List Int := if l.length < many ∧ n ∉ l then l ++ [n] else l
def fillL (list up : List Int) (many : Nat) : List Int := up.foldl (f2 many) (list.foldl (f1 up many) [])
theorem f1_all (up : List Int) (many : Nat) : ∀ (rest done : List Int), (done ++ rest).Nodup → (done ++ rest).length ≤ many → rest.foldl (f1 up many) (done.filter (· ∈ up)) = (done ++ rest).filter (· ∈ up)
  | [], done, _, _ => by simp
  | n :: rest, done, hn, hl => by
    have h := f1_all up many rest (done ++ [n]) (by simpa using hn) (by simpa using hl)
    rw [List.foldl_cons]
    have e : f1 up many (done.filter (· ∈ up)) n = (done ++ [n]).filter (· ∈ up) := by
      unfold f1
      have hnd : n ∉ done := by
        rw [List.nodup_append] at hn
        exact fun h => hn.2.2 n h n (by simp) rfl
      have hlen : (done.filter (· ∈ up)).length < many := by
        have := List.length_filter_le (· ∈ up) done
        simp at hl
        omega
      rw [List.filter_append]
      by_cases hu : n ∈ up
      · rw [if_pos ⟨hlen, hu, fun h => hnd (List.mem_filter.1 h).1⟩]
        simp [hu]
      · rw [if_neg (fun h => hu h.2.1)]
        simp [hu]
    rw [e, h]
    simp
theorem f2_all (many : Nat) : ∀ (u l : List Int), l.Nodup → u.Nodup → (u.foldl (f2 many) l).Nodup ∧ (∃ t, u.foldl (f2 many) l = l ++ t) ∧ (∀ x ∈ u.foldl (f2 many) l, x ∈ l ∨ x ∈ u) ∧ (u.foldl (f2 many) l).length = if many ≤ l.length then l.length else min many (l.length + (u.filter (· ∉ l)).length)
  | [], l, hl, _ => ⟨hl, ⟨[], by simp⟩, fun x h => .inl h, by simp; omega⟩
  | n :: u, l, hl, hu => by
    rw [List.nodup_cons] at hu
    rw [List.foldl_cons]
    by_cases h1 : l.length < many
    · by_cases h2 : n ∈ l
      · have e : f2 many l n = l := by unfold f2; rw [if_neg (fun h => h.2 h2)]
        rw [e]
        obtain ⟨a, b, c, d⟩ := f2_all many u l hl hu.2
        refine ⟨a, b, fun x hx => (c x hx).imp id (List.mem_cons_of_mem _), ?_⟩
        rw [d]
        simp [h2]
      · have e : f2 many l n = l ++ [n] := by unfold f2; rw [if_pos ⟨h1, h2⟩]
        rw [e]
        have hl2 : (l ++ [n]).Nodup := by
          rw [List.nodup_append]
          exact ⟨hl, by simp, fun a ha b hb => by simp at hb; subst hb; exact fun e => h2 (e ▸ ha)⟩
        obtain ⟨a, ⟨t, b⟩, c, d⟩ := f2_all many u (l ++ [n]) hl2 hu.2
        refine ⟨a, ⟨n :: t, by rw [b]; simp⟩, fun x hx => ?_, ?_⟩
        · rcases c x hx with h | h
          · rcases List.mem_append.1 h with h | h
            · exact .inl h
            · simp at h; subst h; exact .inr (List.mem_cons_self ..)
          · exact .inr (List.mem_cons_of_mem _ h)
        · rw [d]
          have hf : u.filter (fun x => x ∉ l ++ [n]) = u.filter (· ∉ l) := by
            apply List.filter_congr
            intro x hx
            have hxn : x ≠ n := fun e => hu.1 (e ▸ hx)
            simp [hxn]
          rw [hf]
          have h3 : (n :: u).filter (· ∉ l) = n :: u.filter (· ∉ l) := by simp [h2]
          have hll : (l ++ [n]).length = l.length + 1 := by simp
          rw [h3, hll, if_neg (show ¬ many ≤ l.length by omega), List.length_cons]
          split <;> omega
    · have e : f2 many l n = l := by unfold f2; rw [if_neg (fun h => h1 h.1)]
      rw [e]
      obtain ⟨a, b, c, d⟩ := f2_all many u l hl hu.2
      refine ⟨a, b, fun x hx => (c x hx).imp id (List.mem_cons_of_mem _), ?_⟩
      rw [d, if_pos (by omega), if_pos (by omega)]
theorem filter_two (p : Int → Bool) (l : List Int) : (l.filter p).length + (l.filter fun x => !p x).length = l.length := by
  induction l with
  | nil => rfl
  | cons x t ih =>
    simp only [List.filter_cons]
    cases p x <;> simp <;> omega
/-- what fill makes of a list -/
theorem fill_does (list up : List Int) (many : Nat) (h1 : list.Nodup) (h2 : up.Nodup) (h3 : list.length ≤ many) :
    (fillL list up many).Nodup ∧ (∀ x ∈ fillL list up many, x ∈ up) ∧ (fillL list up many).length = min many up.length ∧ ∃ t, fillL list up many = list.filter (· ∈ up) ++ t := by
  have e := f1_all up many list [] (by simpa using h1) (by simpa using h3)
  simp only [List.filter_nil, List.nil_append] at e
  unfold fillL
  rw [e]
  have hl0 : (list.filter (· ∈ up)).Nodup := h1.filter _
  obtain ⟨a, b, c, d⟩ := f2_all many up (list.filter (· ∈ up)) hl0 h2
  refine ⟨a, fun x hx => ?_, ?_, b⟩
  · rcases c x hx with h | h
    · have := (List.mem_filter.1 h).2
      simpa using this
    · exact h
  · rw [d]
    have hle : (list.filter (· ∈ up)).length ≤ list.length := List.length_filter_le _ _
    have hp : (up.filter (· ∈ list.filter (· ∈ up))).Perm (list.filter (· ∈ up)) := by
      rw [List.perm_ext_iff_of_nodup (h2.filter _) hl0]
      intro x
      simp
    have hpl := hp.length_eq
    have hs : (up.filter (· ∈ list.filter (· ∈ up))).length + (up.filter (· ∉ list.filter (· ∈ up))).length = up.length := by
      have := filter_two (fun x => decide (x ∈ list.filter (· ∈ up))) up
      simp only [decide_not]
      exact this
    split <;> omega
theorem okK_nodup (l : List Int) (k : Nat) (hk : k ≤ l.length) (h : okK l k = true) : (l.take k).Nodup := by
  induction k with
  | zero => simp
  | succ k ih =>
    have e : l.take (k + 1) = l.take k ++ [l[k]] := List.take_succ_eq_append_getElem (by omega)
    simp only [okK, Bool.and_eq_true] at h
    have h2 : l.getD k 0 ∉ l.take k := by simpa using h.2
    rw [List.getD_eq_getElem?_getD, List.getElem?_eq_getElem (by omega)] at h2
    rw [e, List.nodup_append]
    exact ⟨ih (by omega) h.1.1, by simp, fun a ha b hb => by simp at hb; subst hb; exact fun e => h2 (e ▸ ha)⟩
theorem nodesB_nodup {l : List Int} {least : Nat} (h : nodesB l least = true) : l.Nodup ∧ l.length ≤ 3 := by
  unfold nodesB at h
  simp only [Bool.and_eq_true, decide_eq_true_eq] at h
  have := okK_nodup l l.length (Nat.le_refl _) h.1.1
  rw [List.take_length] at this
  exact ⟨this, h.2⟩
theorem nearM_ok (b : Int) (M C : List Int) : (nearM b 5 M C).Nodup ∧ (nearM b 5 M C).length ≤ 3 := by
  unfold nearM
  rw [if_neg (by decide)]
  cases hb : badN M C 5
  · rw [if_neg (by decide)]
    unfold badN at hb
    simp at hb
    exact nodesB_nodup hb.1
  · rw [if_pos rfl]
    simp
theorem nearC_ok (b : Int) (M C : List Int) : (nearC b 5 M C).Nodup ∧ (nearC b 5 M C).length ≤ 3 := by
  unfold nearC
  rw [if_neg (by decide)]
  cases hb : badN M C 5
  · rw [if_neg (by decide)]
    unfold badN at hb
    simp at hb
    exact nodesB_nodup hb.2
  · rw [if_pos rfl]
    refine ⟨?_, by simp⟩
    simp
    omega
theorem rise_ok (u : Nat → Bool) (ld : Nat → Int) : (riseL u ld).Nodup ∧ (riseL u ld).length = (upK u 5).length ∧ ∀ x, x ∈ riseL u ld ↔ ∃ i : Nat, i < 5 ∧ u i = true ∧ x = i := by
  have hp := insTo_perm (cmpL ld) (upK u 5) (upK u 5).length (Nat.le_refl _)
  exact ⟨hp.nodup_iff.2 (upK_nodup u 5), hp.length_eq, fun x => hp.mem_iff.trans (upK_mem u 5 x)⟩
end Go.Proofs.Ytadejhlljdcocaa
