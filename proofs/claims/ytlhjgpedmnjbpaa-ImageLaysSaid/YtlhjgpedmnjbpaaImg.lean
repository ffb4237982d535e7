/-
  image, pure: packing as a function over lists of bytes; unpacking, from whatever is left; there and back. Of no program but num's sources.
-/
import Derived.Test.YtlhjgpedmnjbpaaNumM
import Derived.Test.YtlhjgpedmnjbpaaHeld
import Derived.Lib.Repeat
namespace Go.Proofs.Ytlhjgpedmnjbpaa
open Go.RowKit
set_option linter.unusedVariables false

/-- how many of the first bytes are c -/
def cntL (c : UInt8) : List UInt8 → Nat
  | [] => 0
  | d :: l => if d = c then 1 + cntL c l else 0
/-- how many bytes there are of the first one -/
def runN : List UInt8 → Nat
  | [] => 0
  | c :: l => 1 + cntL c l
theorem cntL_le (c : UInt8) (l : List UInt8) : cntL c l ≤ l.length := by
  induction l with
  | nil => simp [cntL]
  | cons d l ih => unfold cntL; split <;> simp <;> omega
theorem cntL_take (c : UInt8) (l : List UInt8) : l.take (cntL c l) = List.replicate (cntL c l) c := by
  induction l with
  | nil => rfl
  | cons d l ih =>
    unfold cntL
    split
    · rename_i h
      subst h
      rw [Nat.add_comm 1, List.take_succ_cons, ih, List.replicate_succ]
    · rfl
theorem cntL_at (c : UInt8) (l : List UInt8) (i : Nat) (h : i < l.length) (hi : i ≤ cntL c l) : l.getD i 0 = c ↔ i < cntL c l := by
  induction l generalizing i with
  | nil => simp at h
  | cons d l ih =>
    unfold cntL at hi ⊢
    cases i with
    | zero =>
      by_cases hd : d = c
      · simp [hd]; omega
      · simp [hd]
    | succ i =>
      by_cases hd : d = c
      · rw [if_pos hd] at hi ⊢
        have := ih i (by simpa using h) (by omega)
        rw [List.getD_cons_succ, this]
        omega
      · rw [if_neg hd] at hi
        omega
theorem runN_cons (c : UInt8) (l : List UInt8) : runN (c :: l) = 1 + cntL c l := rfl
theorem runN_pos (c : UInt8) (l : List UInt8) : 1 ≤ runN (c :: l) := by rw [runN_cons]; omega
theorem runN_le (l : List UInt8) : runN l ≤ l.length := by
  cases l with
  | nil => simp [runN]
  | cons c l => have := cntL_le c l; simp [runN]; omega
theorem runN_at (c : UInt8) (l : List UInt8) (i : Nat) (h : i < (c :: l).length) (hi : i ≤ runN (c :: l)) : (c :: l).getD i 0 = c ↔ i < runN (c :: l) := by
  rw [runN_cons] at *
  cases i with
  | zero => simp; omega
  | succ i =>
    have := cntL_at c l i (by simpa using h) (by omega)
    rw [List.getD_cons_succ, this]
    omega
theorem runN_take (c : UInt8) (l : List UInt8) : (c :: l).take (runN (c :: l)) = List.replicate (runN (c :: l)) c := by
  rw [runN_cons, Nat.add_comm 1, List.take_succ_cons, cntL_take, List.replicate_succ]

/-- what is told of bytes that are no run -/
def flushL (p : List UInt8) : List UInt8 := if p = [] then [] else putN (2 * p.length) ++ p
def packF : Nat → List UInt8 → List UInt8 → List UInt8
  | 0, p, _ => flushL p
  | _ + 1, p, [] => flushL p
  | k + 1, p, c :: l => if 4 ≤ runN (c :: l) then flushL p ++ (putN (2 * runN (c :: l) + 1) ++ ([c] ++ packF k [] ((c :: l).drop (runN (c :: l))))) else packF k (p ++ (c :: l).take (runN (c :: l))) ((c :: l).drop (runN (c :: l)))
theorem packF_more (k : Nat) : ∀ (p l : List UInt8), l.length ≤ k → packF (k + 1) p l = packF k p l := by
  induction k with
  | zero =>
    intro p l h
    obtain rfl : l = [] := List.eq_nil_of_length_eq_zero (by omega)
    rfl
  | succ k ih =>
    intro p l h
    cases l with
    | nil => rfl
    | cons c l =>
      have := runN_pos c l
      have hd : ((c :: l).drop (runN (c :: l))).length ≤ k := by simp only [List.length_drop]; simp only [List.length_cons] at *; omega
      rw [packF, packF, ih _ _ hd, ih _ _ hd]
/-- bytes, packed, behind others that are no run -/
def packL (p l : List UInt8) : List UInt8 := packF l.length p l
theorem packF_ge (p l : List UInt8) (k : Nat) : packF (l.length + k) p l = packL p l := by
  induction k with
  | zero => rfl
  | succ k ih => rw [← Nat.add_assoc, packF_more _ _ _ (by omega), ih]
theorem packL_nil (p : List UInt8) : packL p [] = flushL p := rfl
theorem packL_cons (p : List UInt8) (c : UInt8) (l : List UInt8) : packL p (c :: l) = if 4 ≤ runN (c :: l) then flushL p ++ (putN (2 * runN (c :: l) + 1) ++ ([c] ++ packL [] ((c :: l).drop (runN (c :: l))))) else packL (p ++ (c :: l).take (runN (c :: l))) ((c :: l).drop (runN (c :: l))) := by
  have := runN_pos c l
  have e : l.length = ((c :: l).drop (runN (c :: l))).length + (l.length - ((c :: l).drop (runN (c :: l))).length) := by simp only [List.length_drop, List.length_cons]; omega
  have h1 : ∀ p, packF l.length p ((c :: l).drop (runN (c :: l))) = packL p ((c :: l).drop (runN (c :: l))) := by
    intro p
    have := packF_ge p ((c :: l).drop (runN (c :: l))) (l.length - ((c :: l).drop (runN (c :: l))).length)
    rw [← e] at this
    exact this
  show packF (l.length + 1) p (c :: l) = _
  rw [packF, h1, h1]
theorem flushL_len (p : List UInt8) (h : p.length ≤ 1073741824) : (flushL p).length ≤ 9 + p.length := by
  unfold flushL
  split
  · simp
  · have := putN_length (2 * p.length) (by omega)
    simp; omega
theorem packL_len (k : Nat) : ∀ (p l : List UInt8), l.length ≤ k → p.length + l.length ≤ 1073741824 → (packL p l).length ≤ 9 + p.length + 11 * l.length := by
  induction k with
  | zero =>
    intro p l h hp
    obtain rfl : l = [] := List.eq_nil_of_length_eq_zero (by omega)
    rw [packL_nil]
    have := flushL_len p (by simpa using hp)
    simpa using this
  | succ k ih =>
    intro p l h hp
    cases l with
    | nil =>
      rw [packL_nil]
      have := flushL_len p (by simpa using hp)
      simpa using this
    | cons c l =>
      have h1 := runN_pos c l
      have h2 := runN_le (c :: l)
      have hd : ((c :: l).drop (runN (c :: l))).length = l.length + 1 - runN (c :: l) := by simp
      have hk : (((c :: l).take (runN (c :: l)))).length = runN (c :: l) := by rw [List.length_take]; exact Nat.min_eq_left h2
      simp only [List.length_cons] at *
      rw [packL_cons]
      split
      · rename_i h4
        have i1 := ih [] ((c :: l).drop (runN (c :: l))) (by omega) (by simp only [List.length_nil]; omega)
        have i2 := flushL_len p (by omega)
        have i3 := putN_length (2 * runN (c :: l) + 1) (by omega)
        simp only [List.length_append, List.length_cons, List.length_nil] at *
        omega
      · have i1 := ih (p ++ (c :: l).take (runN (c :: l))) ((c :: l).drop (runN (c :: l))) (by omega) (by simp only [List.length_append]; omega)
        simp only [List.length_append] at *
        omega

/-- a text so many times -/
def repL (s : List UInt8) (n : Nat) : List UInt8 := Lib.repeatL s n
theorem repL_len (s : List UInt8) (n : Nat) : (repL s n).length = n * s.length := Lib.repeatL_length s n
theorem repL_one (c : UInt8) (n : Nat) : repL [c] n = List.replicate n c := by
  unfold repL
  induction n with
  | zero => rfl
  | succ n ih => rw [Lib.repeatL, ih, List.replicate_succ]; rfl

theorem takeS_le (r : RS) (n : Int) : (r.takeS n).s.length ≤ r.s.length := by
  unfold RS.takeS RS.fail
  repeat' split
  all_goals simp
theorem numS_short (q : RS) (L : Nat) (h : q.s ≠ []) (he : (q.numS L).e = 0) : (q.numS L).s.length < q.s.length := by
  obtain ⟨s, e⟩ := q
  by_cases hz : e = 0
  · subst hz
    cases s with
    | nil => exact absurd rfl h
    | cons c s =>
      have b1 : (⟨c :: s, 0⟩ : RS).takeB 1 = [c] := takeB_ok (c :: s) 1 (by simp)
      have s1 : (⟨c :: s, 0⟩ : RS).takeS 1 = ⟨s, 0⟩ := takeS_ok (c :: s) 1 (by simp)
      have ht := takeS_le ⟨s, 0⟩ c.toNat
      rw [RS.numS, b1, s1, numS1, if_neg (by simp)] at he ⊢
      show (if 8 < c.toNat then (⟨s, 0⟩ : RS).fail 3 else numS2 ((⟨s, 0⟩ : RS).takeS c.toNat) ((⟨s, 0⟩ : RS).takeB c.toNat) L).s.length < (c :: s).length
      have he' : (if 8 < c.toNat then (⟨s, 0⟩ : RS).fail 3 else numS2 ((⟨s, 0⟩ : RS).takeS c.toNat) ((⟨s, 0⟩ : RS).takeB c.toNat) L).e = 0 := he
      simp only [List.length_cons] at *
      split
      · simp [RS.fail]
      · unfold numS2
        split
        · omega
        · split
          · unfold RS.fail
            split
            · simp
            · omega
          · omega
  · rw [numS_err ⟨s, e⟩ L hz] at he
    exact absurd he hz

/-- what unpacking leaves of a source, and what it tells -/
def unpF : Nat → RS → List UInt8 → RS × List UInt8
  | 0, q, o => (q, o)
  | k + 1, q, o =>
    if q.s = [] then (q, o) else
    if (q.numS 18446744073709551615).e ≠ 0 then (q.numS 18446744073709551615, o) else
    if q.numV 18446744073709551615 / 2 = 0 ∨ 65536 - o.length < q.numV 18446744073709551615 / 2 then ((q.numS 18446744073709551615).fail 3, o) else
    if q.numV 18446744073709551615 % 2 = 0 then unpF k ((q.numS 18446744073709551615).takeS (q.numV 18446744073709551615 / 2 : Nat)) (o ++ (q.numS 18446744073709551615).takeB (q.numV 18446744073709551615 / 2 : Nat))
    else unpF k ((q.numS 18446744073709551615).takeS 1) (o ++ repL ((q.numS 18446744073709551615).takeB 1) (q.numV 18446744073709551615 / 2))
theorem unpF_more (k : Nat) : ∀ (q : RS) (o : List UInt8), q.s.length ≤ k → unpF (k + 1) q o = unpF k q o := by
  induction k with
  | zero =>
    intro q o h
    have : q.s = [] := List.eq_nil_of_length_eq_zero (by omega)
    simp [unpF, this]
  | succ k ih =>
    intro q o h
    rw [unpF]
    conv => rhs; rw [unpF]
    by_cases h0 : q.s = []
    · rw [if_pos h0, if_pos h0]
    · rw [if_neg h0, if_neg h0]
      by_cases h1 : (q.numS 18446744073709551615).e ≠ 0
      · rw [if_pos h1, if_pos h1]
      · rw [if_neg h1, if_neg h1]
        have hs := numS_short q 18446744073709551615 h0 (by simpa using h1)
        have t1 := takeS_le (q.numS 18446744073709551615) (q.numV 18446744073709551615 / 2 : Nat)
        have t2 := takeS_le (q.numS 18446744073709551615) 1
        rw [ih _ _ (by omega), ih _ _ (by omega)]
def unp (q : RS) (o : List UInt8) : RS × List UInt8 := unpF q.s.length q o
theorem unpF_ge (q : RS) (o : List UInt8) (k : Nat) (h : q.s.length ≤ k) : unpF k q o = unp q o := by
  obtain ⟨d, rfl⟩ := Nat.exists_eq_add_of_le h
  induction d with
  | zero => rfl
  | succ d ih => rw [← Nat.add_assoc, unpF_more _ _ _ (by omega), ih (by omega)]
theorem unp_nil (q : RS) (o : List UInt8) (h : q.s = []) : unp q o = (q, o) := by
  unfold unp
  rw [h]
  rfl
theorem unp_step (q : RS) (o : List UInt8) (h : q.s ≠ []) : unp q o =
    if (q.numS 18446744073709551615).e ≠ 0 then (q.numS 18446744073709551615, o) else
    if q.numV 18446744073709551615 / 2 = 0 ∨ 65536 - o.length < q.numV 18446744073709551615 / 2 then ((q.numS 18446744073709551615).fail 3, o) else
    if q.numV 18446744073709551615 % 2 = 0 then unp ((q.numS 18446744073709551615).takeS (q.numV 18446744073709551615 / 2 : Nat)) (o ++ (q.numS 18446744073709551615).takeB (q.numV 18446744073709551615 / 2 : Nat))
    else unp ((q.numS 18446744073709551615).takeS 1) (o ++ repL ((q.numS 18446744073709551615).takeB 1) (q.numV 18446744073709551615 / 2)) := by
  rw [← unpF_ge q o (q.s.length + 1) (by omega), unpF, if_neg h]
  by_cases h1 : (q.numS 18446744073709551615).e ≠ 0
  · rw [if_pos h1, if_pos h1]
  · rw [if_neg h1, if_neg h1]
    have hs := numS_short q 18446744073709551615 h (by simpa using h1)
    have t1 := takeS_le (q.numS 18446744073709551615) (q.numV 18446744073709551615 / 2 : Nat)
    have t2 := takeS_le (q.numS 18446744073709551615) 1
    rw [unpF_ge _ _ _ (by omega), unpF_ge _ _ _ (by omega)]
/-- the errors that a source can have -/
def Er (e : Int) : Prop := e = 0 ∨ e = 2 ∨ e = 3
theorem er_take (r : RS) (n : Int) (h : Er r.e) : Er (r.takeS n).e := by
  unfold RS.takeS RS.fail
  repeat' split
  all_goals first | exact h | (right; left; rfl)
theorem er_fail3 (r : RS) (h : Er r.e) : Er (r.fail 3).e := by
  unfold RS.fail
  split
  · right; right; rfl
  · exact h
theorem er_num (r : RS) (L : Nat) (h : Er r.e) : Er (r.numS L).e := by
  unfold RS.numS numS1 numS2
  have h1 := er_take r 1 h
  repeat' split
  all_goals first | exact h1 | exact er_fail3 _ h1 | exact er_take _ _ h1 | exact er_fail3 _ (er_take _ _ h1)
theorem takeB_le (r : RS) (n : Nat) : (r.takeB n).length ≤ n := by have := takeB_len r n; simpa using this
theorem unp_well (k : Nat) : ∀ (q : RS) (o : List UInt8), Er q.e → o.length ≤ 65536 → Er (unpF k q o).1.e ∧ (unpF k q o).2.length ≤ 65536 := by
  induction k with
  | zero => intro q o h ho; exact ⟨h, ho⟩
  | succ k ih =>
    intro q o h ho
    have h1 := er_num q 18446744073709551615 h
    have t1 := takeB_le (q.numS 18446744073709551615) (q.numV 18446744073709551615 / 2)
    have t2 := takeB_le (q.numS 18446744073709551615) 1
    rw [unpF]
    split
    · exact ⟨h, ho⟩
    · split
      · exact ⟨h1, ho⟩
      · split
        · exact ⟨er_fail3 _ h1, ho⟩
        · rename_i hn
          split
          · exact ih _ _ (er_take _ _ h1) (by simp only [List.length_append]; omega)
          · refine ih _ _ (er_take _ _ h1) ?_
            rw [List.length_append, repL_len]
            have : q.numV 18446744073709551615 / 2 * ((q.numS 18446744073709551615).takeB 1).length ≤ q.numV 18446744073709551615 / 2 * 1 := Nat.mul_le_mul_left _ t2
            omega
theorem unp_flush (p rest o : List UInt8) (h : o.length + p.length ≤ 65536) : unp ⟨flushL p ++ rest, 0⟩ o = unp ⟨rest, 0⟩ (o ++ p) := by
  unfold flushL
  split
  · rename_i h0
    subst h0
    simp
  · rename_i h0
    have hp : 0 < p.length := List.length_pos_iff.2 h0
    obtain ⟨e1, e2⟩ := num_put (2 * p.length) (by omega) (p ++ rest) 18446744073709551615 (by omega)
    rw [List.append_assoc, unp_step _ _ (by simp [putN])]
    rw [e1, e2, show 2 * p.length / 2 = p.length by omega, if_neg (by simp), if_neg (by omega), if_pos (by omega)]
    rw [takeS_ok _ _ (by simp), takeB_ok _ _ (by simp)]
    simp
theorem unp_run (c : UInt8) (n : Nat) (rest o : List UInt8) (h1 : 1 ≤ n) (h : o.length + n ≤ 65536) : unp ⟨putN (2 * n + 1) ++ ([c] ++ rest), 0⟩ o = unp ⟨rest, 0⟩ (o ++ List.replicate n c) := by
  obtain ⟨e1, e2⟩ := num_put (2 * n + 1) (by omega) ([c] ++ rest) 18446744073709551615 (by omega)
  rw [unp_step _ _ (by simp [putN])]
  rw [e1, e2, show (2 * n + 1) / 2 = n by omega, if_neg (by simp), if_neg (by omega), if_neg (by omega)]
  have a1 : (⟨[c] ++ rest, 0⟩ : RS).takeS 1 = ⟨([c] ++ rest).drop 1, 0⟩ := takeS_ok ([c] ++ rest) 1 (by simp)
  have a2 : (⟨[c] ++ rest, 0⟩ : RS).takeB 1 = ([c] ++ rest).take 1 := takeB_ok ([c] ++ rest) 1 (by simp)
  rw [a1, a2]
  simp [repL_one]
theorem unp_pack (k : Nat) : ∀ (p l rest o : List UInt8), l.length ≤ k → o.length + p.length + l.length ≤ 65536 → unp ⟨packL p l ++ rest, 0⟩ o = unp ⟨rest, 0⟩ (o ++ p ++ l) := by
  induction k with
  | zero =>
    intro p l rest o h hl
    obtain rfl : l = [] := List.eq_nil_of_length_eq_zero (by omega)
    rw [packL_nil, unp_flush p rest o (by omega)]
    simp
  | succ k ih =>
    intro p l rest o h hl
    cases l with
    | nil =>
      rw [packL_nil, unp_flush p rest o (by omega)]
      simp
    | cons c l =>
      have h1 := runN_pos c l
      have h2 := runN_le (c :: l)
      have h3 := runN_take c l
      have hd : ((c :: l).drop (runN (c :: l))).length = l.length + 1 - runN (c :: l) := by simp
      have ht := List.take_append_drop (runN (c :: l)) (c :: l)
      have hk : (((c :: l).take (runN (c :: l)))).length = runN (c :: l) := by rw [List.length_take]; exact Nat.min_eq_left h2
      simp only [List.length_cons] at hl h h2
      rw [packL_cons]
      split
      · rename_i h4
        rw [List.append_assoc, unp_flush p _ o (by omega), List.append_assoc, List.append_assoc, unp_run _ _ _ _ h1 (by simp only [List.length_append]; omega), ih _ _ _ _ (by omega) (by simp only [List.length_append, List.length_nil, List.length_replicate]; omega)]
        rw [← h3, List.append_nil, List.append_assoc, List.append_assoc, ht, ← List.append_assoc]
      · rw [ih _ _ _ _ (by omega) (by simp only [List.length_append]; omega)]
        congr 1
        rw [← List.append_assoc, List.append_assoc, List.append_assoc, ht, ← List.append_assoc]
/-- what Unpack tells -/
def unpV (l : List UInt8) : List UInt8 := if (unp ⟨l, 0⟩ []).1.e ≠ 0 then [] else (unp ⟨l, 0⟩ []).2
def unpE (l : List UInt8) : Int := (unp ⟨l, 0⟩ []).1.e
theorem unp_back (l : List UInt8) (h : l.length ≤ 65536) : unpV (packL [] l) = l ∧ unpE (packL [] l) = 0 := by
  have := unp_pack l.length [] l [] [] (Nat.le_refl _) (by simpa using h)
  rw [List.append_nil] at this
  unfold unpV unpE
  rw [this, unp_nil _ _ rfl]
  simp
theorem unp_behind (l b : List UInt8) (h : l.length ≤ 65536) : unpE (packL [] l ++ b) = (unp ⟨b, 0⟩ l).1.e := by
  have := unp_pack l.length [] l b [] (Nat.le_refl _) (by simpa using h)
  unfold unpE
  rw [this]
  simp
theorem bad1 (o : List UInt8) : (unp ⟨[1, 1, 97], 0⟩ o).1.e = 3 := by
  have e1 : (⟨[1, 1, 97], 0⟩ : RS).numV 18446744073709551615 = 1 := by decide +kernel
  have e2 : (⟨[1, 1, 97], 0⟩ : RS).numS 18446744073709551615 = ⟨[97], 0⟩ := by rfl
  rw [unp_step _ _ (by simp), e1, e2, if_neg (by simp), if_pos (by left; rfl)]
  rfl
theorem bad2 (o : List UInt8) (h : o.length ≤ 65000) : (unp ⟨[1, 10, 97, 98, 99], 0⟩ o).1.e = 2 := by
  have e1 : (⟨[1, 10, 97, 98, 99], 0⟩ : RS).numV 18446744073709551615 = 10 := by decide +kernel
  have e2 : (⟨[1, 10, 97, 98, 99], 0⟩ : RS).numS 18446744073709551615 = ⟨[97, 98, 99], 0⟩ := by rfl
  rw [unp_step _ _ (by simp), e1, e2, if_neg (by simp), if_neg (by omega), if_pos rfl]
  have : (⟨[97, 98, 99], 0⟩ : RS).takeS (10 / 2 : Nat) = ⟨[], 2⟩ := by rfl
  rw [this, unp_nil _ _ rfl]
theorem bad3 (o : List UInt8) : (unp ⟨[0, 97], 0⟩ o).1.e = 3 := by
  have e1 : (⟨[0, 97], 0⟩ : RS).numV 18446744073709551615 = 0 := by decide +kernel
  have e2 : (⟨[0, 97], 0⟩ : RS).numS 18446744073709551615 = ⟨[97], 0⟩ := by rfl
  rw [unp_step _ _ (by simp), e1, e2, if_neg (by simp), if_pos (by left; rfl)]
  rfl
theorem bad4 (o : List UInt8) (h : o.length ≤ 65000) : (unp ⟨[3, 2, 0, 3, 97], 0⟩ o).1.e = 3 := by
  have e1 : (⟨[3, 2, 0, 3, 97], 0⟩ : RS).numV 18446744073709551615 = 131075 := by decide +kernel
  have e2 : (⟨[3, 2, 0, 3, 97], 0⟩ : RS).numS 18446744073709551615 = ⟨[97], 0⟩ := by rfl
  rw [unp_step _ _ (by simp), e1, e2, if_neg (by simp), if_pos (by right; omega)]
  rfl
end Go.Proofs.Ytlhjgpedmnjbpaa
