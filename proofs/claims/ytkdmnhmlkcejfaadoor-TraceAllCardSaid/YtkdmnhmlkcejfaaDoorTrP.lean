/-
  An act's bytes, as a pure function of them: what is put comes back, and what comes back was put.
-/
import Derived.Test.YtkdmnhmlkcejfaaDoorNumM
namespace Go.Proofs.YtkdmnhmlkcejfaaDoor
open Go.RowKit
set_option linter.unusedVariables false

theorem fail_e0 {r : RS} {n : Int} (hn : n ≠ 0) : (r.fail n).e ≠ 0 := by
  unfold RS.fail
  split
  · exact hn
  · rename_i h
    intro e
    exact h ⟨e, hn⟩
theorem take_canon {r : RS} {n : Int} (h : (r.takeS n).e = 0) : r.e = 0 ∧ r.s = r.takeB n ++ (r.takeS n).s ∧ (r.takeB n).length = n.toNat ∧ 0 ≤ n := by
  unfold RS.takeS at h
  unfold RS.takeB RS.takeS
  by_cases he : r.e ≠ 0
  · rw [if_pos he] at h; exact absurd h he
  · rw [if_neg he] at h
    rw [if_neg he, if_neg he]
    by_cases hc : n < 0 ∨ (r.s.length : Int) < n
    · rw [if_pos hc] at h; exact absurd h (fail_e0 (by decide))
    · rw [if_neg hc, if_neg hc]
      have := not_or.1 hc
      exact ⟨Classical.not_not.1 he, by simp, by rw [List.length_take]; omega, by omega⟩
theorem hi_val : ∀ (n : Nat) (b : List UInt8), b.length = n → n ≤ 8 → b.getD 0 0 ≠ 0 → hiN (valN b) = b ∧ needN (valN b) = b.length ∧ valN b ≠ 0
  | 0, b, h, _, h0 => by rw [List.length_eq_zero_iff.1 h] at h0; simp at h0
  | n + 1, b, h, h8, h0 => by
    obtain ⟨l, c, rfl⟩ : ∃ l c, b = l ++ [c] := by
      refine ⟨b.dropLast, b.getLast (by intro e; rw [e] at h; simp at h), ?_⟩
      exact (List.dropLast_concat_getLast _).symm
    have hl : l.length = n := by simpa using h
    have hlt := valN_lt (l ++ [c])
    have hp : 256 ^ (l ++ [c]).length ≤ 256 ^ 8 := Nat.pow_le_pow_right (by decide) (by omega)
    have hb : valN (l ++ [c]) < 18446744073709551616 := by
      have : (256 : Nat) ^ 8 = 18446744073709551616 := by decide
      omega
    have hc := c.toNat_lt
    have hv : valN (l ++ [c]) = valN l * 256 + c.toNat := valN_snoc l c
    have hd : (valN l * 256 + c.toNat) / 256 = valN l := by omega
    have ho : UInt8.ofNat (valN l * 256 + c.toNat) = c := by
      apply UInt8.toNat_inj.1
      rw [UInt8.toNat_ofNat']
      omega
    by_cases hn : n = 0
    · subst hn
      have : l = [] := List.length_eq_zero_iff.1 hl
      subst this
      have hc0 : c ≠ 0 := by simpa using h0
      have hcn : c.toNat ≠ 0 := fun e => hc0 (UInt8.toNat_inj.1 (by rw [e]; rfl))
      have hne : valN ([] ++ [c]) ≠ 0 := by rw [hv, valN_nil]; omega
      refine ⟨?_, ?_, hne⟩
      · rw [hiN_step _ hne hb, hv, hd, ho, valN_nil, hiN_zero]
      · rw [needN_step _ hne hb, hv, hd, valN_nil, needN_zero]; rfl
    · have h0' : l.getD 0 0 ≠ 0 := by
        cases l with
        | nil => simp at hl; omega
        | cons x t => simpa using h0
      obtain ⟨i1, i2, i3⟩ := hi_val n l hl (by omega) h0'
      have hne : valN (l ++ [c]) ≠ 0 := by rw [hv]; omega
      refine ⟨?_, ?_, hne⟩
      · rw [hiN_step _ hne hb, hv, hd, ho, i1]
      · rw [needN_step _ hne hb, hv, hd, i2]; simp
theorem num_canon {r : RS} {L : Nat} (h : (r.numS L).e = 0) : r.e = 0 ∧ r.s = putN (r.numV L) ++ (r.numS L).s ∧ r.numV L ≤ L := by
  refine ⟨?_, ?_, numV_le r L⟩
  · by_cases he : r.e = 0
    · exact he
    · rw [numS_err r L he] at h; exact absurd h he
  unfold RS.numS numS1 at h
  unfold RS.numV RS.numS numS1 numV1
  by_cases h1 : r.takeB 1 = []
  · rw [if_pos h1] at h
    have := (take_canon h).2.2.1
    rw [h1] at this
    simp at this
  · rw [if_neg h1] at h
    rw [if_neg h1, if_neg h1]
    by_cases h8 : 8 < ((r.takeB 1).getD 0 0).toNat
    · rw [if_pos h8] at h; exact absurd h (fail_e0 (by decide))
    · rw [if_neg h8] at h
      rw [if_neg h8, if_neg h8]
      unfold numS2 at h
      unfold numS2 numV2
      obtain ⟨c, hc⟩ : ∃ c, r.takeB 1 = [c] := by
        have := takeB_len r 1
        match hh : r.takeB 1 with
        | [] => exact absurd hh h1
        | [c] => exact ⟨c, rfl⟩
        | a :: b :: t => rw [hh] at this; simp at this
      rw [hc] at h ⊢
      have hcd : ([c] : List UInt8).getD 0 0 = c := rfl
      rw [hc, hcd] at h8
      rw [hcd] at h ⊢
      by_cases hb : (r.takeS 1).takeB c.toNat = []
      · rw [if_pos hb] at h
        rw [if_pos hb, if_pos hb]
        obtain ⟨e2, s2, l2, -⟩ := take_canon h
        obtain ⟨e1, s1, l1, -⟩ := take_canon e2
        rw [hb] at l2 s2
        have hc0 : c = 0 := UInt8.toNat_inj.1 (by simpa using l2.symm)
        rw [s1, hc, s2, hc0]
        rfl
      · rw [if_neg hb] at h
        rw [if_neg hb, if_neg hb]
        by_cases hz : ((r.takeS 1).takeB c.toNat).getD 0 0 = 0 ∨ L < valN ((r.takeS 1).takeB c.toNat)
        · rw [if_pos hz] at h; exact absurd h (fail_e0 (by decide))
        · rw [if_neg hz] at h
          rw [if_neg hz, if_neg hz]
          obtain ⟨e2, s2, l2, -⟩ := take_canon h
          obtain ⟨e1, s1, l1, -⟩ := take_canon e2
          have l2' : ((r.takeS 1).takeB c.toNat).length = c.toNat := by simpa using l2
          obtain ⟨i1, i2, -⟩ := hi_val _ _ l2' (by omega) (not_or.1 hz).1
          rw [putN, i1, i2, l2', s1, hc]
          have : UInt8.ofNat c.toNat = c := by simp
          rw [this, s2]
          simp
theorem text_canon {r : RS} {L : Int} (h : (r.textS L).e = 0) : r.e = 0 ∧ r.s = (putN (r.textB L).length ++ r.textB L) ++ (r.textS L).s ∧ ((r.textB L).length : Int) ≤ max L 0 := by
  unfold RS.textS at h
  unfold RS.textB RS.textS
  obtain ⟨e1, s1, l1, -⟩ := take_canon h
  obtain ⟨e0, s0, l0⟩ := num_canon e1
  have l1' : ((r.numS (min L 65536).toNat).takeB (r.numV (min L 65536).toNat)).length = r.numV (min L 65536).toNat := by simpa using l1
  refine ⟨e0, ?_, by omega⟩
  rw [l1']
  rw [List.append_assoc, ← s1]
  exact s0
def RS.boolS (r : RS) : RS := if r.takeB 1 = [] ∨ r.takeB 1 = [121] ∨ r.takeB 1 = [110] then r.takeS 1 else (r.takeS 1).fail 3
def RS.boolV (r : RS) : Bool := decide (r.takeB 1 = [121])
theorem bool_canon {r : RS} (h : r.boolS.e = 0) : r.e = 0 ∧ r.s = boolB r.boolV ++ r.boolS.s := by
  unfold RS.boolS at h
  unfold RS.boolS RS.boolV
  by_cases hc : r.takeB 1 = [] ∨ r.takeB 1 = [121] ∨ r.takeB 1 = [110]
  · rw [if_pos hc] at h
    rw [if_pos hc]
    obtain ⟨e0, s0, l0, -⟩ := take_canon h
    refine ⟨e0, ?_⟩
    rcases hc with hc | hc | hc
    · rw [hc] at l0; simp at l0
    · rw [s0, hc]; rfl
    · rw [s0, hc]; rfl
  · rw [if_neg hc] at h; exact absurd h (fail_e0 (by decide))
theorem bool_put (b : Bool) (rest : List UInt8) : (⟨boolB b ++ rest, 0⟩ : RS).boolV = b ∧ (⟨boolB b ++ rest, 0⟩ : RS).boolS = ⟨rest, 0⟩ := by
  have b1 := takeB_ok (boolB b ++ rest) 1 (by cases b <;> simp [boolB])
  have s1 := takeS_ok (boolB b ++ rest) 1 (by cases b <;> simp [boolB])
  unfold RS.boolV RS.boolS
  rw [show ((1 : Nat) : Int) = 1 from rfl] at b1 s1
  rw [b1, s1]
  cases b <;> simp [boolB]
theorem ints_canon {q : RS} {L : Nat} : ∀ {k : Nat}, (intsR q L k).1.e = 0 → q.e = 0 ∧ (intsR q L k).2.length = k ∧ q.s = flatN (intsR q L k).2 ++ (intsR q L k).1.s ∧ ∀ x ∈ (intsR q L k).2, 0 ≤ x ∧ x ≤ (L : Int)
  | 0, h => ⟨h, rfl, by simp [intsR, flatN], by simp [intsR]⟩
  | k + 1, h => by
    rw [intsR] at h ⊢
    by_cases he : (intsR q L k).1.e ≠ 0
    · rw [if_pos he] at h; exact absurd h he
    · rw [if_neg he] at h
      rw [if_neg he]
      obtain ⟨h1, h2, h3, h4⟩ := ints_canon (q := q) (L := L) (k := k) (Classical.not_not.1 he)
      obtain ⟨n1, n2, n3⟩ := num_canon h
      refine ⟨h1, by simp [h2], ?_, ?_⟩
      · rw [h3, n2]
        simp [flatN]
      · intro x hx
        rcases List.mem_append.1 hx with hx | hx
        · exact h4 x hx
        · rw [List.mem_singleton.1 hx]; omega
theorem list_canon {r : RS} {many L : Int} (h : (r.listS many L).e = 0) : r.e = 0 ∧ r.s = listN (r.listV many L) ++ (r.listS many L).s ∧ ((r.listV many L).length : Int) ≤ max many 0 ∧ ∀ x ∈ r.listV many L, 0 ≤ x ∧ x ≤ max L 0 := by
  have hV : r.listV many L = (intsR (r.numS many.toNat) L.toNat (r.numV many.toNat)).2 := by unfold RS.listV; rw [if_neg (by simpa using h)]
  unfold RS.listS at h
  obtain ⟨h1, h2, h3, h4⟩ := ints_canon h
  obtain ⟨n1, n2, n3⟩ := num_canon h1
  rw [hV]
  refine ⟨n1, ?_, by rw [h2]; omega, fun x hx => by have := h4 x hx; omega⟩
  unfold RS.listS
  rw [listN, h2, List.append_assoc]
  show r.s = putN _ ++ (flatN _ ++ _)
  rw [← h3]
  exact n2

/-- an act, its texts and lists as they read -/
structure TA where
  W : Int
  P : Int
  A : Int
  B : Int
  aW : Int
  aA : Int
  aL : Int
  D : List UInt8
  u : Bool
  M : List Int
  C : List Int
  S : List UInt8
def TA.nums (t : TA) : List Int := [t.W, t.P, t.A, t.B, t.aW, t.aA, t.aL]
def NodesL (l : List Int) : Prop := l.length ≤ 3 ∧ ∀ x ∈ l, 0 ≤ x ∧ x ≤ 4
instance (l : List Int) : Decidable (NodesL l) := by unfold NodesL; infer_instance
def NumsL (t : TA) : Prop := ∀ x ∈ t.nums, 0 ≤ x ∧ x ≤ 1073741824
instance (t : TA) : Decidable (NumsL t) := by unfold NumsL; infer_instance
/-- it can be traced -/
def MayT (t : TA) : Prop := NumsL t ∧ NodesL t.M ∧ NodesL t.C ∧ t.D.length + t.S.length ≤ 8192
instance (t : TA) : Decidable (MayT t) := by unfold MayT; infer_instance
def textN (s : List UInt8) : List UInt8 := putN s.length ++ s
def encT (t : TA) : List UInt8 := listN t.nums ++ (boolB t.u ++ (textN t.D ++ (listN t.M ++ (listN t.C ++ textN t.S))))
def act1 (b : List UInt8) : RS := (⟨b, 0⟩ : RS).listS 7 1073741824
def actL (b : List UInt8) : List Int := (⟨b, 0⟩ : RS).listV 7 1073741824
def act2 (b : List UInt8) : RS := if (actL b).length = 7 then act1 b else (act1 b).fail 3
def act3 (b : List UInt8) : RS := (act2 b).boolS
def act4 (b : List UInt8) : RS := (act3 b).textS 8192
def act5 (b : List UInt8) : RS := (act4 b).listS 3 4
def act6 (b : List UInt8) : RS := (act5 b).listS 3 4
def act7 (b : List UInt8) : RS := (act6 b).textS 8192
def act8 (b : List UInt8) : RS := (act7 b).endS
def actT (b : List UInt8) : TA := ⟨(actL b).getD 0 0, (actL b).getD 1 0, (actL b).getD 2 0, (actL b).getD 3 0, (actL b).getD 4 0, (actL b).getD 5 0, (actL b).getD 6 0, (act3 b).textB 8192, (act2 b).boolV, (act4 b).listV 3 4, (act5 b).listV 3 4, (act6 b).textB 8192⟩
def actE (b : List UInt8) : Int := if (act8 b).e = 0 ∧ ¬ MayT (actT b) then 3 else (act8 b).e
theorem seven {l : List Int} (h : l.length = 7) : [l.getD 0 0, l.getD 1 0, l.getD 2 0, l.getD 3 0, l.getD 4 0, l.getD 5 0, l.getD 6 0] = l := by
  match l, h with
  | [a, b, c, d, e, f, g], _ => rfl
theorem end_canon {r : RS} (h : r.endS.e = 0) : r.e = 0 ∧ r.s = [] := by
  unfold RS.endS at h
  by_cases hs : r.s = []
  · rw [if_pos hs] at h; exact ⟨h, hs⟩
  · rw [if_neg hs] at h; exact absurd h (fail_e0 (by decide))
theorem act_canon {b : List UInt8} (h : actE b = 0) : MayT (actT b) ∧ encT (actT b) = b := by
  unfold actE at h
  by_cases hm : (act8 b).e = 0 ∧ ¬ MayT (actT b)
  · rw [if_pos hm] at h; exact absurd h (by decide)
  · rw [if_neg hm] at h
    have hM : MayT (actT b) := Classical.byContradiction fun hn => hm ⟨h, hn⟩
    refine ⟨hM, ?_⟩
    obtain ⟨e7, s7⟩ := end_canon h
    obtain ⟨e6, s6, -⟩ := text_canon e7
    obtain ⟨e5, s5, -⟩ := list_canon e6
    obtain ⟨e4, s4, -⟩ := list_canon e5
    obtain ⟨e3, s3, -⟩ := text_canon e4
    obtain ⟨e2, s2⟩ := bool_canon e3
    have h7 : (actL b).length = 7 := Classical.byContradiction fun hn => by
      have e2' : (act2 b).e = 0 := e2
      unfold act2 at e2'
      rw [if_neg hn] at e2'
      exact fail_e0 (by decide) e2'
    have h21 : act2 b = act1 b := by unfold act2; rw [if_pos h7]
    have e1 : (act1 b).e = 0 := by rw [← h21]; exact e2
    obtain ⟨-, s1, -⟩ := list_canon e1
    have t1 : b = listN (actL b) ++ (act1 b).s := s1
    have t2 : (act1 b).s = boolB (act2 b).boolV ++ (act3 b).s := by rw [← h21]; exact s2
    have t3 : (act3 b).s = textN ((act3 b).textB 8192) ++ (act4 b).s := s3
    have t4 : (act4 b).s = listN ((act4 b).listV 3 4) ++ (act5 b).s := s4
    have t5 : (act5 b).s = listN ((act5 b).listV 3 4) ++ (act6 b).s := s5
    have t6 : (act6 b).s = textN ((act6 b).textB 8192) ++ (act7 b).s := s6
    have t7 : (act7 b).s = [] := s7
    show listN (actT b).nums ++ (boolB (act2 b).boolV ++ (textN ((act3 b).textB 8192) ++ (listN ((act4 b).listV 3 4) ++ (listN ((act5 b).listV 3 4) ++ textN ((act6 b).textB 8192))))) = b
    rw [show (actT b).nums = actL b from seven h7]
    rw [t7, List.append_nil] at t6
    rw [← t6, ← t5, ← t4, ← t3, ← t2, ← t1]
theorem act_back {t : TA} (h : MayT t) : actE (encT t) = 0 ∧ actT (encT t) = t := by
  obtain ⟨h1, ⟨m1, m2⟩, ⟨c1, c2⟩, h4⟩ := h
  have k1 := list_put t.nums (boolB t.u ++ (textN t.D ++ (listN t.M ++ (listN t.C ++ textN t.S)))) 7 1073741824 (by simp [TA.nums]) (by decide) h1 (by simp [TA.nums])
  have k2 := bool_put t.u (textN t.D ++ (listN t.M ++ (listN t.C ++ textN t.S)))
  have k3 := text_put t.D (listN t.M ++ (listN t.C ++ textN t.S)) 8192 (by omega) (by omega)
  have k4 := list_put t.M (listN t.C ++ textN t.S) 3 4 (by omega) (by decide) m2 (by omega)
  have k5 := list_put t.C (textN t.S) 3 4 (by omega) (by decide) c2 (by omega)
  have k6 := text_put t.S [] 8192 (by omega) (by omega)
  rw [List.append_nil] at k6
  have a1 : act1 (encT t) = ⟨boolB t.u ++ (textN t.D ++ (listN t.M ++ (listN t.C ++ textN t.S))), 0⟩ := k1.2
  have aL : actL (encT t) = t.nums := k1.1
  have a2 : act2 (encT t) = ⟨boolB t.u ++ (textN t.D ++ (listN t.M ++ (listN t.C ++ textN t.S))), 0⟩ := by unfold act2; rw [if_pos (by rw [aL]; rfl)]; exact a1
  have a3 : act3 (encT t) = ⟨textN t.D ++ (listN t.M ++ (listN t.C ++ textN t.S)), 0⟩ := by unfold act3; rw [a2]; exact k2.2
  have a4 : act4 (encT t) = ⟨listN t.M ++ (listN t.C ++ textN t.S), 0⟩ := by unfold act4; rw [a3]; exact k3.2
  have a5 : act5 (encT t) = ⟨listN t.C ++ textN t.S, 0⟩ := by unfold act5; rw [a4]; exact k4.2
  have a6 : act6 (encT t) = ⟨textN t.S, 0⟩ := by unfold act6; rw [a5]; exact k5.2
  have a7 : act7 (encT t) = ⟨[], 0⟩ := by unfold act7; rw [a6]; exact k6.2
  have a8 : act8 (encT t) = ⟨[], 0⟩ := by unfold act8; rw [a7]; rfl
  have aT : actT (encT t) = t := by
    unfold actT
    rw [aL, a2, a3, a4, a5, a6, k2.1, show (⟨textN t.D ++ (listN t.M ++ (listN t.C ++ textN t.S)), 0⟩ : RS).textB 8192 = t.D from k3.1, k4.1, k5.1, show (⟨textN t.S, 0⟩ : RS).textB 8192 = t.S from k6.1]
    rfl
  refine ⟨?_, aT⟩
  unfold actE
  rw [a8, aT, if_neg (fun hh => hh.2 ⟨h1, ⟨m1, m2⟩, ⟨c1, c2⟩, h4⟩)]
/-- the first error is one of two -/
def E23 (e : Int) : Prop := e = 0 ∨ e = 2 ∨ e = 3
theorem E23.fail {r : RS} (h : E23 r.e) {n : Int} (hn : n = 2 ∨ n = 3) : E23 (r.fail n).e := by
  unfold RS.fail
  split
  · exact .inr hn
  · exact h
theorem E23.take {r : RS} (h : E23 r.e) (n : Int) : E23 (r.takeS n).e := by
  unfold RS.takeS
  split
  · exact h
  · split
    · exact h.fail (.inl rfl)
    · exact h
theorem E23.num {r : RS} (h : E23 r.e) (L : Nat) : E23 (r.numS L).e := by
  unfold RS.numS numS1 numS2
  split
  · exact h.take _
  · split
    · exact (h.take _).fail (.inr rfl)
    · split
      · exact (h.take _).take _
      · split
        · exact ((h.take _).take _).fail (.inr rfl)
        · exact (h.take _).take _
theorem E23.ints {q : RS} (h : E23 q.e) (L : Nat) : ∀ k, E23 (intsR q L k).1.e
  | 0 => h
  | k + 1 => by
    rw [intsR]
    split
    · exact E23.ints h L k
    · exact (E23.ints h L k).num L
theorem E23.list {r : RS} (h : E23 r.e) (m L : Int) : E23 (r.listS m L).e := (h.num _).ints _ _
theorem E23.text {r : RS} (h : E23 r.e) (L : Int) : E23 (r.textS L).e := (h.num _).take _
theorem E23.bool {r : RS} (h : E23 r.e) : E23 r.boolS.e := by
  unfold RS.boolS
  split
  · exact h.take _
  · exact (h.take _).fail (.inr rfl)
theorem E23.end_ {r : RS} (h : E23 r.e) : E23 r.endS.e := by
  unfold RS.endS
  split
  · exact h
  · exact h.fail (.inr rfl)
theorem act_err (b : List UInt8) : E23 (actE b) := by
  unfold actE
  split
  · exact .inr (.inr rfl)
  · have h1 : E23 (act1 b).e := E23.list (.inl rfl) _ _
    have h2 : E23 (act2 b).e := by unfold act2; split; exact h1; exact h1.fail (.inr rfl)
    exact (((((h2.bool).text _).list _ _).list _ _).text _).end_
end Go.Proofs.YtkdmnhmlkcejfaaDoor
