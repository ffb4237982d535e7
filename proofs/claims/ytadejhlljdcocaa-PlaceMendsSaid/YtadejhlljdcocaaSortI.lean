/-
  slices.SortStableFunc of few integers: insertion, as a function of what compares.
-/
import Derived.Test.YtadejhlljdcocaaHeld
import Derived.Test.YtadejhlljdcocaaShelf
namespace Go.Proofs.Ytadejhlljdcocaa
open Go.RowKit
set_option linter.unusedVariables false
set_option linter.unusedSimpArgs false

def swp (l : List Int) (j : Nat) : List Int := (l.set (j + 1) (l.getD j 0)).set j (l.getD (j + 1) 0)
theorem swp_len (l : List Int) (j : Nat) : (swp l j).length = l.length := by simp [swp]
def bub (cf : Int → Int → Int) : Nat → List Int → List Int
  | 0, l => l
  | j + 1, l => if cf (l.getD (j + 1) 0) (l.getD j 0) < 0 then bub cf j (swp l j) else l
def insTo (cf : Int → Int → Int) (l : List Int) : Nat → List Int
  | 0 => l
  | k + 1 => bub cf k (insTo cf l k)
theorem bub_len (cf : Int → Int → Int) : ∀ (j : Nat) (l : List Int), (bub cf j l).length = l.length
  | 0, l => rfl
  | j + 1, l => by
    simp only [bub]
    split
    · rw [bub_len cf j, swp_len]
    · rfl
theorem insTo_len (cf : Int → Int → Int) (l : List Int) (k : Nat) : (insTo cf l k).length = l.length := by
  induction k with
  | zero => rfl
  | succ k ih => rw [insTo, bub_len, ih]
theorem swp_perm (l : List Int) (j : Nat) (hj : j + 1 < l.length) : (swp l j).Perm l := by
  unfold swp
  have h1 : l.getD j 0 = l[j] := by simp [List.getD, show j < l.length by omega]
  have h2 : l.getD (j + 1) 0 = l[j + 1] := by simp [List.getD, hj]
  rw [h1, h2]
  have e : l = l.take j ++ l[j] :: l[j + 1] :: l.drop (j + 2) := by
    conv => lhs; rw [← List.take_append_drop j l, List.drop_eq_getElem_cons (by omega), List.drop_eq_getElem_cons (by omega)]
  generalize l[j] = x at *
  generalize l[j + 1] = y at *
  have hl : (l.take j).length = j := by simp; omega
  rw [e]
  generalize l.take j = p at *
  generalize l.drop (j + 2) = q at *
  subst hl
  have e2 : (((p ++ x :: y :: q).set (p.length + 1) x).set p.length y) = p ++ y :: x :: q := by
    rw [List.set_append_right _ _ (by omega), List.set_append_right _ _ (by omega)]
    simp
  rw [e2]
  exact List.Perm.append_left p (List.Perm.swap x y q)
theorem bub_perm (cf : Int → Int → Int) : ∀ (j : Nat) (l : List Int), j < l.length → (bub cf j l).Perm l
  | 0, l, _ => List.Perm.refl _
  | j + 1, l, h => by
    simp only [bub]
    split
    · exact (bub_perm cf j _ (by rw [swp_len]; omega)).trans (swp_perm l j h)
    · exact List.Perm.refl _
theorem insTo_perm (cf : Int → Int → Int) (l : List Int) (k : Nat) (hk : k ≤ l.length) : (insTo cf l k).Perm l := by
  induction k with
  | zero => exact List.Perm.refl _
  | succ k ih =>
    rw [insTo]
    exact (bub_perm cf k _ (by rw [insTo_len]; omega)).trans (ih (by omega))
theorem bub_zero (l : List Int) (j : Nat) : bub (fun _ _ => 0) j l = l := by
  cases j with
  | zero => rfl
  | succ j => simp [bub]
theorem insTo_zero (l : List Int) (k : Nat) : insTo (fun _ _ => 0) l k = l := by
  induction k with
  | zero => rfl
  | succ k ih => rw [insTo, ih, bub_zero]
/-- a row of integers that may be written -/
def RowL (w : World) (b : Nat) (l : List Int) : Prop := ∀ j, j < l.length → w.cell? ⟨b, j, none⟩ = some (.int .i64 (l.getD j 0)) ∧ w.frozen? ⟨b, j, none⟩ = false
theorem RowL.drewN {w : World} {b : Nat} {l : List Int} (h : RowL w b l) (q : Nat) : RowL (w.drewN q) b l := h
theorem swp_get (l : List Int) (j i : Nat) (hj : j + 1 < l.length) : (swp l j).getD i 0 = if i = j then l.getD (j + 1) 0 else if i = j + 1 then l.getD j 0 else l.getD i 0 := by
  unfold swp
  simp only [List.getD_eq_getElem?_getD, List.getElem?_set]
  by_cases h1 : i = j
  · subst h1
    simp [show i < l.length by omega]
  · by_cases h2 : i = j + 1
    · subst h2
      simp [hj]
    · simp [h1, h2, Ne.symm h1, Ne.symm h2]
theorem RowL.swap {w : World} {b : Nat} {l : List Int} (h : RowL w b l) (j : Nat) (hj : j + 1 < l.length) :
    RowL ((w.setCell ⟨b, j + 1, none⟩ (.int .i64 (l.getD j 0))).setCell ⟨b, j, none⟩ (.int .i64 (l.getD (j + 1) 0))) b (swp l j) := by
  intro i hi
  rw [swp_len] at hi
  obtain ⟨h1, h2⟩ := h i hi
  obtain ⟨k1, -⟩ := h j (by omega)
  obtain ⟨k2, -⟩ := h (j + 1) hj
  refine ⟨?_, by simp [h2]⟩
  rw [swp_get l j i hj]
  by_cases e1 : i = j
  · subst e1
    rw [if_pos rfl]
    exact World.cell?_setCell_same _ _ _ (u := .int .i64 (l.getD i 0)) ((World.cell?_setCell_other _ _ _ _ (by intro e; injection e with _ e2; omega)).trans k1)
  · rw [if_neg e1]
    refine (World.cell?_setCell_other _ _ _ _ (by intro e; injection e with _ e2; omega)).trans ?_
    by_cases e2 : i = j + 1
    · subst e2
      rw [if_pos rfl]
      exact World.cell?_setCell_same _ _ _ k2
    · rw [if_neg e2]
      exact (World.cell?_setCell_other _ _ _ _ (by intro e; injection e with _ e2; omega)).trans h1
/-- what the sorting keeps: only the row turns; what the comparing function reads stays -/
structure SRelI (R : World → Prop) (w wr : World) (b : Nat) (l : List Int) : Prop where
  row : RowL wr b l
  only : Only b w wr
  r : R wr
def SortPost (R : World → Prop) (w : World) (b : Nat) (l : List Int) (e : Ending) (w' : World) : Prop := e = .returned (.tuple #[]) ∧ SRelI R w w' b l
theorem SRelI.drewN {R : World → Prop} {w wr : World} {b : Nat} {l : List Int} (h : SRelI R w wr b l) (hRk : ∀ {w1 w2 : World}, R w1 → Only b w1 w2 → R w2) (q : Nat) : SRelI R w (wr.drewN q) b l := ⟨h.row.drewN q, h.only.drewN q, hRk h.r ((Only.refl b wr).drewN q)⟩
set_option maxHeartbeats 3200000 in
set_option maxRecDepth 100000 in
theorem insI (g : Nat) (lb : Array Value) (cf : Int → Int → Int) (R : World → Prop) (b n cap : Nat) (l : List Int) (w : World) (hl : l.length = n) (hn : n ≤ 1000) (hn2 : 1 ≤ n) (hrow : RowL w b l) (hR : R w)
    (eg : ∀ args w, (callFunc g args).run Try.prog w = .ok (.enter g args) w) (hRk : ∀ {w1 w2 : World}, R w1 → Only b w1 w2 → R w2)
    (hf : ∀ (x y : Int) (w' : World), x ∈ l → y ∈ l → R w' → Calls Try.prog g (#[.int .i64 x, .int .i64 y] ++ lb) w' fun e w'' => e = .returned (.int .i64 (cf x y)) ∧ ∃ q, w'' = w'.drewN q) :
    Calls Try.prog 206 #[.slice (some ⟨b, 0, none⟩) n cap, .int .i64 0, .int .i64 n, .func (.func g) #[] lb] w (SortPost R w b (insTo cf l n)) := by
  have HF := Lib.hid hf
  have HS := Lib.hid (show SRelI R w w b (insTo cf l 1) from ⟨hrow, Only.refl _ _, hR⟩)
  have HL := Lib.hid hl
  clear hf hrow hR hl
  go_enter Try.func206, Try.ntmps206
  go_wp2_with fail
  go_loopw [8] (fun i wr => ∃ k : Nat, 1 ≤ k ∧ k ≤ n ∧ i = .int .i64 k ∧ Hid (SRelI R w wr b (insTo cf l k))) (fun i _ => n - (intOf i).toNat)
  case atStart => exact ⟨1, by decide, hn2, rfl, HS⟩
  case round =>
    obtain ⟨k, hk1, hk, rfl, HR⟩ := hrel
    clear HS
    by_cases hlt : k < n
    · go_wp2_with fail
      go_loopw [9] (fun i wr => ∃ (j : Nat) (m : List Int), j ≤ k ∧ i = .int .i64 j ∧ Hid (SRelI R w wr b m ∧ m.length = n ∧ m.Perm l ∧ bub cf j m = insTo cf l (k + 1))) (fun i _ => (intOf i).toNat)
      case atStart => exact ⟨k, _, Nat.le_refl _, rfl, Lib.hid ⟨HR.out, by rw [insTo_len, HL.out], insTo_perm cf l k (by rw [HL.out]; omega), rfl⟩⟩
      case round =>
        obtain ⟨j, m, hj, rfl, HM⟩ := hrel
        obtain ⟨W0, hW0⟩ : ∃ W0, W0 = wr := ⟨_, rfl⟩
        subst hW0
        have hjn : j < n := by omega
        rcases j with _ | i
        · go_wp2_with fail
          go_quiet (fail)
          have HE := Lib.hid (show SRelI R w (W0.drewN nq) b (insTo cf l (k + 1)) from by
            have := HM.out
            rw [← this.2.2.2]
            exact this.1.drewN hRk nq)
          go_wp2_with fail
          go_roundw
          case rel => exact ⟨k + 1, by omega, by omega, by go_num, HE⟩
          case measure => simp [intOf]; omega
        · obtain ⟨hM, hml, hmp, hmb⟩ := HM.out
          have hi1 : i + 1 < m.length := by omega
          have hbs : bub cf (i + 1) m = if cf (m.getD (i + 1) 0) (m.getD i 0) < 0 then bub cf i (swp m i) else m := rfl
          obtain ⟨c1, f1⟩ := hM.row (i + 1) hi1
          obtain ⟨c0, f0⟩ := hM.row i (by omega)
          have hx : m.getD (i + 1) 0 ∈ l := hmp.mem_iff.1 (by rw [List.getD_eq_getElem?_getD, List.getElem?_eq_getElem hi1]; exact List.getElem_mem _)
          have hy : m.getD i 0 ∈ l := hmp.mem_iff.1 (by rw [List.getD_eq_getElem?_getD, List.getElem?_eq_getElem (show i < m.length by omega)]; exact List.getElem_mem _)
          have hsw := hM.row.swap i hi1
          have cc := fun q => HF.out (m.getD (i + 1) 0) (m.getD i 0) (W0.drewN q) hx hy (hRk hM.r ((Only.refl b W0).drewN q))
          obtain ⟨x, hxe⟩ : ∃ x, m.getD (i + 1) 0 = x := ⟨_, rfl⟩
          obtain ⟨y, hye⟩ : ∃ y, m.getD i 0 = y := ⟨_, rfl⟩
          rw [hxe, hye] at cc hbs hsw
          rw [hxe] at c1
          rw [hye] at c0
          obtain ⟨c, hc⟩ : ∃ c, cf x y = c := ⟨_, rfl⟩
          rw [hc] at cc hbs
          have HX := Lib.hid (And.intro hsw (And.intro hbs (And.intro hml hmp)))
          clear hM hml hmp hmb hbs hx hy hsw hxe hye hc
          have hs1 : ((i + 1 : Nat) : Int) - 1 = i := by omega
          by_cases hcn : c < 0
          · have hcd : decide (c < 0) = true := decide_eq_true hcn
            have hpos : decide (0 < ((i + 1 : Nat) : Int)) = true := decide_eq_true (by omega)
            go_upto_region 4 with fail
            go_quiet (exact Calls.quiet_of (cc _))
            go_wp2_with fail
            have HN := Lib.hid (show SRelI R w (((W0.drewN nq).setCell ⟨b, i + 1, none⟩ (.int .i64 y)).setCell ⟨b, i, none⟩ (.int .i64 x)).drew b (swp m i) ∧ (swp m i).length = n ∧ (swp m i).Perm l ∧ bub cf i (swp m i) = insTo cf l (k + 1) from by
              have ho : Only b W0 (((W0.drewN nq).setCell ⟨b, i + 1, none⟩ (.int .i64 y)).setCell ⟨b, i, none⟩ (.int .i64 x)).drew := ((((Only.refl b W0).drewN nq).set (i + 1) _).set i _).drew
              refine ⟨⟨HX.out.1, HM.out.1.only.trans ho, hRk HM.out.1.r ho⟩, by rw [swp_len]; exact HX.out.2.2.1, (swp_perm m i hi1).trans HX.out.2.2.2, ?_⟩
              have h1 := HX.out.2.1
              rw [if_pos hcn] at h1
              rw [← h1]
              exact HM.out.2.2.2)
            have d1 : (W0.drewN nq).cell? ⟨b, i + 1, none⟩ = some (.int .i64 x) := c1
            have d0 : (W0.drewN nq).cell? ⟨b, i, none⟩ = some (.int .i64 y) := c0
            have e1 : (W0.drewN nq).frozen? ⟨b, i + 1, none⟩ = false := f1
            have e0 : (W0.drewN nq).frozen? ⟨b, i, none⟩ = false := f0
            have e2 : ((W0.drewN nq).setCell ⟨b, i + 1, none⟩ (.int .i64 y)).cell? ⟨b, i, none⟩ = some (.int .i64 y) := (World.cell?_setCell_other _ _ _ _ (by intro e; injection e with _ e2; omega)).trans d0
            clear c1 c0 f1 f0 cc
            generalize W0.drewN nq = W1 at *
            go_region
            all_goals
              go_wp2_with fail
              go_roundw
              case rel => exact ⟨i, swp m i, by omega, by first | rfl | simp, HN⟩
              case measure => simp [intOf]; try omega
          · have hcd : decide (c < 0) = false := decide_eq_false hcn
            go_upto_region 4 with fail
            go_quiet (exact Calls.quiet_of (cc _))
            go_wp2_with fail
            have HE := Lib.hid (show SRelI R w (W0.drewN nq) b (insTo cf l (k + 1)) from by
              have h1 := HX.out.2.1
              rw [if_neg hcn] at h1
              rw [← HM.out.2.2.2, h1]
              exact HM.out.1.drewN hRk nq)
            exact ⟨⟨k + 1, by omega, by omega, by go_num, HE⟩, by simp [intOf]; omega⟩
    · obtain rfl : k = n := by omega
      go_wp2_with fail
      go_end0
      exact ⟨rfl, HR.out⟩
set_option maxHeartbeats 1600000 in
set_option maxRecDepth 100000 in
theorem stableI (g : Nat) (lb : Array Value) (cf : Int → Int → Int) (R : World → Prop) (b n cap : Nat) (l : List Int) (w : World) (hl : l.length = n) (hn : n < 20) (hn2 : 1 ≤ n) (hrow : RowL w b l) (hR : R w)
    (eg : ∀ args w, (callFunc g args).run Try.prog w = .ok (.enter g args) w) (hRk : ∀ {w1 w2 : World}, R w1 → Only b w1 w2 → R w2)
    (hf : ∀ (x y : Int) (w' : World), x ∈ l → y ∈ l → R w' → Calls Try.prog g (#[.int .i64 x, .int .i64 y] ++ lb) w' fun e w'' => e = .returned (.int .i64 (cf x y)) ∧ ∃ q, w'' = w'.drewN q) :
    Calls Try.prog 150 #[.slice (some ⟨b, 0, none⟩) n cap, .func (.func g) #[] lb] w (SortPost R w b (insTo cf l n)) := by
  have ci := insI g lb cf R b n cap l w hl (by omega) hn2 hrow hR eg hRk hf
  have cs : Calls Try.prog 187 #[.slice (some ⟨b, 0, none⟩) n cap, .int .i64 n, .func (.func g) #[] lb] w (SortPost R w b (insTo cf l n)) := by
    clear hf hrow hR hl
    go_enter Try.func187, Try.ntmps187
    go_wp2_with fail
    go_loopw [7, 8] (fun x y wr => x = .int .i64 0 ∧ y = .int .i64 20 ∧ wr = w) (fun _ _ _ => 0)
    case atStart => exact ⟨rfl, rfl, rfl⟩
    case round =>
      obtain ⟨rfl, rfl, rfl⟩ := hrel
      go_wp2_with fail
      refine Calls.mono ci ?_
      rintro e w1 ⟨rfl, h1⟩
      go_wp2_with fail
      go_loopw [6] (fun x wr => x = .int .i64 20 ∧ wr = w1) (fun _ _ => 0)
      case atStart => exact ⟨rfl, rfl⟩
      case round =>
        obtain ⟨rfl, rfl⟩ := hrel
        go_wp2_with fail
        go_end0
        exact ⟨rfl, h1⟩
  clear ci hf hrow hR hl
  go_enter Try.func150, Try.ntmps150
  go_wp2_with fail
  refine Calls.mono cs ?_
  rintro e w1 ⟨rfl, h1⟩
  go_wp2_with fail
  go_end0
  exact ⟨rfl, h1⟩
end Go.Proofs.Ytadejhlljdcocaa
