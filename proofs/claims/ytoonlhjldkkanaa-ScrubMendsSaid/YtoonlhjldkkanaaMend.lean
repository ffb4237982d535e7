/-
  What each of many lacks, as plain lists. Of no program.
-/
import Derived.Test.YtoonlhjldkkanaaScrubE
namespace Go.Proofs.Ytoonlhjldkkanaa
open Go.RowKit
set_option linter.unusedVariables false
set_option linter.unusedSimpArgs false

theorem getL_lay_other {l : List HI} (h : Srt l) (x : HI) {b : Int} (hb : x.b ≠ b) : getL (layL l x) b = getL l b := by
  cases split_of l x.b h.pw with
  | no A B e hA hB =>
    subst e
    rw [layL_no hA hB]
    unfold getL
    rw [List.find?_append, List.find?_append, List.find?_cons_of_neg (by simpa using hb)]
  | yes A y B e hy hA hB =>
    subst e
    rw [layL_yes hA hy]
    unfold getL
    rw [List.find?_append, List.find?_append, List.find?_cons_of_neg (by split <;> first | (simpa using hb) | (rw [hy]; simpa using hb)), List.find?_cons_of_neg (by rw [hy]; simpa using hb)]
theorem getL_put_other {l : List HI} (h : Srt l) (x : HI) {b : Int} (hb : x.b ≠ b) : getL (putB l x) b = getL l b := by
  unfold putB putL
  split
  · exact getL_lay_other h x hb
  · rfl
theorem lays_of {l : List HI} {x : HI} (hg : Good x) (hm : mB x.v x.d = true) : putsL (mB x.v x.d) l x = laysL l x := by
  unfold putsL
  rw [hm, good_in hg]
  simp
/-- what is lacked: what would be laid -/
theorem lacks_filter {W : List HI} : ∀ {I : List HI} {acc : List HI} {J : List HI}, Srt J → Srt W → AllM W → (∀ x ∈ W, getL J x.b = getL I x.b) → (W.foldl lkS (J, acc)).2 = acc ++ W.filter (laysL I) := by
  induction W with
  | nil => intro I acc J _ _ _ _; simp
  | cons x t ih =>
    intro I acc J hJ hW hm hg
    have hx := hW.all x (by simp)
    have ht : Srt t := ⟨(List.pairwise_cons.1 hW.pw).2, fun y hy => hW.all y (by simp [hy])⟩
    have hp := (List.pairwise_cons.1 hW.pw).1
    have e : laysL J x = laysL I x := by unfold laysL; rw [hg x (by simp)]
    have h2 := ih (I := I) (acc := if laysL I x = true then acc ++ [x] else acc) (J := putB J x) (srt_put hJ hx.ok) ht (fun y hy => hm y (by simp [hy])) (fun y hy => by
      rw [getL_put_other hJ x (by have := hp y hy; omega)]
      exact hg y (by simp [hy]))
    show (t.foldl lkS (lkS (J, acc) x)).2 = _
    have e2 : lkS (J, acc) x = (putB J x, if laysL I x = true then acc ++ [x] else acc) := by
      unfold lkS
      simp only
      rw [lays_of hx (hm x (by simp)), e]
    rw [e2, h2, List.filter_cons]
    split <;> simp
theorem lacks_eq {I W : List HI} (hI : Srt I) (hW : Srt W) (hm : AllM W) : (lacksL I W).2 = W.filter (laysL I) := by
  have := lacks_filter (I := I) (acc := []) hI hW hm (fun x _ => rfl)
  simpa [lacksL] using this
/-- none of it is newer than what all have together -/
def LE (l m : List HI) : Prop := ∀ y ∈ l, ∃ z ∈ m, z.b = y.b ∧ y.v ≤ z.v
def leV (o p : Option Int) : Prop := match o, p with | none, _ => True | some u, some v => u ≤ v | some _, none => False
theorem leV_refl (o : Option Int) : leV o o := by cases o <;> simp [leV]
theorem leV_trans {o p q : Option Int} (h : leV o p) (g : leV p q) : leV o q := by
  cases o <;> cases p <;> cases q <;> simp [leV] at * <;> omega
theorem leV_step (s : Int → Option Int) (x : HI) (b : Int) : leV (s b) (stepV s x b) := by
  unfold stepV
  split
  · cases s b <;> simp [leV, maxV]; omega
  · exact leV_refl _
theorem leV_fold {xs : List HI} {b : Int} : ∀ {s : Int → Option Int}, leV (s b) (xs.foldl stepV s b) := by
  induction xs with
  | nil => intro s; exact leV_refl _
  | cons x t ih => intro s; exact leV_trans (leV_step s x b) (ih (s := stepV s x))
theorem leV_mem {xs : List HI} {y : HI} : ∀ {s : Int → Option Int}, y ∈ xs → (mB y.v y.d && inB y.b) = true → leV (some y.v) (xs.foldl stepV s y.b) := by
  induction xs with
  | nil => intro s h _; cases h
  | cons x t ih =>
    intro s h hm
    rcases List.mem_cons.1 h with q | q
    · subst q
      refine leV_trans ?_ (leV_fold (s := stepV s y))
      unfold stepV
      rw [if_pos ⟨hm, rfl⟩]
      cases s y.b <;> simp [leV, maxV]; omega
    · exact ih (s := stepV s x) q hm
theorem foldV_le {xs : List HI} {b v : Int} : ∀ {s : Int → Option Int}, leV (s b) (some v) → (∀ y ∈ xs, y.b = b → y.v ≤ v) → leV (xs.foldl stepV s b) (some v) := by
  induction xs with
  | nil => intro s h _; exact h
  | cons x t ih =>
    intro s h hx
    refine ih (s := stepV s x) ?_ (fun y hy => hx y (by simp [hy]))
    unfold stepV
    split
    · rename_i q
      have := hx x (by simp) q.2
      cases hs : s b <;> rw [hs] at h <;> simp [leV, maxV] at * <;> omega
    · exact h
theorem getV_of {l : List HI} (hs : Srt l) {x : HI} (hx : x ∈ l) : getV l x.b = some x.v := by unfold getV; rw [get_mem hs hx]; rfl
theorem le_of_getV {l m : List HI} (hl : Srt l) (h : ∀ b, leV (getV l b) (getV m b)) : LE l m := by
  intro y hy
  have h1 := h y.b
  rw [getV_of hl hy] at h1
  cases hg : getL m y.b with
  | none => unfold getV at h1; rw [hg] at h1; simp [leV] at h1
  | some z =>
    obtain ⟨h2, h3⟩ := mem_get hg
    unfold getV at h1
    rw [hg] at h1
    simp [leV] at h1
    exact ⟨z, h2, h3, h1⟩
theorem le_merge_left {A B : List HI} (hA : Srt A) (mA : AllM A) (hB : Srt B) : LE A (putAll [] (A ++ B)) := by
  have ho : ∀ h ∈ A ++ B, Ok h := fun h hh => by rcases List.mem_append.1 hh with q | q; exact hA.ok h q; exact hB.ok h q
  intro y hy
  have h1 := leV_mem (xs := A ++ B) (s := getV []) (y := y) (by simp [hy]) (by rw [mA y hy, good_in (hA.all y hy)]; rfl)
  rw [← getV_putAll Srt.nil ho] at h1
  cases hg : getL (putAll [] (A ++ B)) y.b with
  | none => unfold getV at h1; rw [hg] at h1; simp [leV] at h1
  | some z =>
    obtain ⟨h2, h3⟩ := mem_get hg
    unfold getV at h1
    rw [hg] at h1
    simp [leV] at h1
    exact ⟨z, h2, h3, h1⟩
theorem le_merge_right {A B : List HI} (hA : Srt A) (hB : Srt B) (mB' : AllM B) : LE B (putAll [] (A ++ B)) := by
  have ho : ∀ h ∈ A ++ B, Ok h := fun h hh => by rcases List.mem_append.1 hh with q | q; exact hA.ok h q; exact hB.ok h q
  intro y hy
  have h1 := leV_mem (xs := A ++ B) (s := getV []) (y := y) (by simp [hy]) (by rw [mB' y hy, good_in (hB.all y hy)]; rfl)
  rw [← getV_putAll Srt.nil ho] at h1
  cases hg : getL (putAll [] (A ++ B)) y.b with
  | none => unfold getV at h1; rw [hg] at h1; simp [leV] at h1
  | some z =>
    obtain ⟨h2, h3⟩ := mem_get hg
    unfold getV at h1
    rw [hg] at h1
    simp [leV] at h1
    exact ⟨z, h2, h3, h1⟩
theorem LE.trans {a b c : List HI} (h : LE a b) (g : LE b c) : LE a c := fun y hy => by
  obtain ⟨z, hz, h1, h2⟩ := h y hy
  obtain ⟨u, hu, h3, h4⟩ := g z hz
  exact ⟨u, hu, h3.trans h1, Int.le_trans h2 h4⟩
/-- with what it lacks each has what all have together -/
theorem mends {I W : List HI} (hI : Srt I) (mI : AllM I) (hW : Srt W) (mW : AllM W) (hle : LE I W) {x : HI} (hx : x ∈ W) : ∃ y, getL (putAll [] (I ++ (lacksL I W).2)) x.b = some y ∧ y.v = x.v := by
  rw [lacks_eq hI hW mW]
  have ho : ∀ h ∈ I ++ W.filter (laysL I), Ok h := fun h hh => by rcases List.mem_append.1 hh with q | q; exact hI.ok h q; exact hW.ok h (List.mem_filter.1 q).1
  have hbl : ∀ z ∈ W, z.b = x.b → z = x := fun z hz e => by
    have h1 := get_mem hW hz
    have h2 := get_mem hW hx
    rw [e, h2] at h1
    exact (Option.some.inj h1).symm
  have hup : ∀ y ∈ I ++ W.filter (laysL I), y.b = x.b → y.v ≤ x.v := fun y hy e => by
    rcases List.mem_append.1 hy with q | q
    · obtain ⟨z, hz, h1, h2⟩ := hle y q
      rw [hbl z hz (h1.trans e)] at h2
      exact h2
    · rw [hbl y (List.mem_filter.1 q).1 e]; exact Int.le_refl _
  have hlo : leV (some x.v) (getV (putAll [] (I ++ W.filter (laysL I))) x.b) := by
    rw [getV_putAll Srt.nil ho]
    cases hl : laysL I x
    · unfold laysL at hl
      cases hg : getL I x.b with
      | none => rw [hg] at hl; cases hl
      | some y =>
        rw [hg] at hl
        have hn := of_decide_eq_false hl
        obtain ⟨h1, h2⟩ := mem_get hg
        have h3 := leV_mem (xs := I ++ W.filter (laysL I)) (s := getV []) (y := y) (by simp [h1]) (by rw [mI y h1, good_in (hI.all y h1)]; rfl)
        rw [h2] at h3
        refine leV_trans ?_ h3
        simp [leV]; omega
    · exact leV_mem (by simp [hx, hl]) (by rw [mW x hx, good_in (hW.all x hx)]; rfl)
  have hhi : leV (getV (putAll [] (I ++ W.filter (laysL I))) x.b) (some x.v) := by
    rw [getV_putAll Srt.nil ho]
    exact foldV_le (by simp [leV, getV, getL]) hup
  cases hg : getL (putAll [] (I ++ W.filter (laysL I))) x.b with
  | none => unfold getV at hlo; rw [hg] at hlo; simp [leV] at hlo
  | some y =>
    refine ⟨y, rfl, ?_⟩
    unfold getV at hlo hhi
    rw [hg] at hlo hhi
    simp [leV] at hlo hhi
    omega
/-- what is lacked is not there, or elder -/
theorem lacks_newer {I W : List HI} (hI : Srt I) (hW : Srt W) (mW : AllM W) {x : HI} (hx : x ∈ (lacksL I W).2) : ∀ y, getL I x.b = some y → y.v < x.v := by
  rw [lacks_eq hI hW mW] at hx
  exact lays_get (List.mem_filter.1 hx).2
theorem lacks_srt {I W : List HI} (hI : Srt I) (hW : Srt W) (mW : AllM W) : Srt (lacksL I W).2 := by
  rw [lacks_eq hI hW mW]
  exact hW.filter _
end Go.Proofs.Ytoonlhjldkkanaa
