/-
  The law's own with of layer 7.
-/
import Derived.Test.YtgnnijpfkgmomaaGreatDoorJlk
namespace Go.Proofs.YtgnnijpfkgmomaaGreatDoor
open Go.RowKit
set_option linter.unusedVariables false
set_option linter.unusedSimpArgs false

/-- what with has made of the first i pairs, and whether the pair is in -/
def wthA (k v : ByteArray) : List JP → List JP × Bool → List JP × Bool
  | [], q => q
  | p :: l, q =>
    let q1 : List JP × Bool := if q.2 = false ∧ ltK p.k k = false then (q.1 ++ [⟨k, v⟩], true) else q
    wthA k v l (if p.k = k then q1 else (q1.1 ++ [p], q1.2))
def stepW (k v : ByteArray) (p : JP) (q : List JP × Bool) : List JP × Bool :=
  let q1 : List JP × Bool := if q.2 = false ∧ ltK p.k k = false then (q.1 ++ [⟨k, v⟩], true) else q
  if p.k = k then q1 else (q1.1 ++ [p], q1.2)
theorem wthA_snoc (k v : ByteArray) (p : JP) : ∀ (l : List JP) (q : List JP × Bool), wthA k v (l ++ [p]) q = stepW k v p (wthA k v l q)
  | [], q => rfl
  | x :: l, q => wthA_snoc k v p l _
def finW (k v : ByteArray) (q : List JP × Bool) : List JP := if q.2 = false then q.1 ++ [⟨k, v⟩] else q.1
theorem wthA_fin (k v : ByteArray) : ∀ (l : List JP) (o : List JP) (b : Bool), finW k v (wthA k v l (o, b)) = o ++ wthK k v b l
  | [], o, b => by
    cases b with
    | true => simp [wthA, finW, wthK]
    | false => simp [wthA, finW, wthK]
  | p :: l, o, b => by
    rw [wthA, wthK]
    by_cases h1 : b = false ∧ ltK p.k k = false
    · simp only [h1, and_self, if_true, Bool.not_false, Bool.or_true]
      by_cases h2 : p.k = k
      · rw [if_pos h2, if_pos h2, wthA_fin k v l]
        simp
      · rw [if_neg h2, if_neg h2, wthA_fin k v l]
        simp
    · simp only [if_neg h1]
      have e : (b || !ltK p.k k) = b := by
        cases b with
        | true => rfl
        | false =>
          cases hq : ltK p.k k with
          | true => rfl
          | false => exact absurd ⟨rfl, hq⟩ h1
      rw [e]
      by_cases h2 : p.k = k
      · rw [if_pos h2, if_pos h2, wthA_fin k v l]
        simp
      · rw [if_neg h2, if_neg h2, wthA_fin k v l]
        simp
theorem wthA_len (k v : ByteArray) : ∀ (l : List JP) (q : List JP × Bool), (wthA k v l q).1.length ≤ q.1.length + 2 * l.length
  | [], q => by simp [wthA]
  | p :: l, q => by
    rw [wthA]
    refine Nat.le_trans (wthA_len k v l _) ?_
    simp only [List.length_cons]
    split <;> split <;> simp <;> omega
def OutR (w wr : World) (ov : Value) (l : List JP) : Prop := wr.ownsRow w.heap.size 43 2 ov l.length (pCells l) ∧ Below w.heap.size w wr
theorem lit_pair (w : World) (x : JP) : SR (w.alloc (.cells #[.string x.k, .string x.v] 43)) (.slice (some ⟨w.heap.size, 0, none⟩) 1 1) 2 1 [.string x.k, .string x.v] :=
  SR.lit w 43 #[.string x.k, .string x.v] 2 1 (by unfold maxLen; omega) rfl
theorem outR_app {w wr w3 : World} {ov v' : Value} {l : List JP} {x : JP} (h : OutR w wr ov l) (h1 : w3.ownsRow w.heap.size 43 2 v' (l.length + 1) (pCells l ++ [.string x.k, .string x.v])) (h2 : (wr.alloc (.cells #[.string x.k, .string x.v] 43)).grownBy w3 ov.ownBlock) : OutR w w3 v' (l ++ [x]) := by
  refine ⟨?_, ?_⟩
  · rw [List.length_append, pCells_app]
    exact h1
  · exact (h.2.alloc h.2.size _).grown h2 (Nat.le_trans h.2.size (by simp)) (fun k hk => (h.1.lt k hk).1)
set_option maxHeartbeats 3200000 in
set_option maxRecDepth 100000 in
theorem lwith {va : Value} {la : List JP} {w : World} (ha : SR w va 2 la.length (pCells la)) (k v : ByteArray) (gone : Bool) (hl : la.length ≤ 100000) :
    Calls Tryz.prog 11 #[va, .string k, .string v, .bool gone] w fun e w' => ∃ ov, e = .returned ov ∧ OutR w w' ov (wthK k v gone la) := by
  obtain ⟨i0, hi, hz0, hz1, hz2⟩ := info_parts (show (Tryz.prog.info? 43).map (fun i => (i.zero, i.size, i.bytes)) = some (some (.agg #[.string ByteArray.empty, .string ByteArray.empty]), 2, 32) by kernel_rfl)
  obtain ⟨aa, ca, rfl, ha1, ha2⟩ := ha.form
  obtain ⟨m, hm⟩ : ∃ m, la.length = m := ⟨_, rfl⟩
  rw [hm] at ha ha1 hl ⊢
  have HA := Lib.hid ha
  have HM := Lib.hid hm
  unfold maxLen at ha2
  have hfin : finW k v (wthA k v la ([], gone)) = wthK k v gone la := by rw [wthA_fin]; rfl
  have HF := Lib.hid hfin
  have ho0 : OutR w (w.alloc (.cells #[] 43)) (.slice (some ⟨w.heap.size, 0, none⟩) 0 0) [] :=
    ⟨World.ownsRow_lit (base := w.heap.size) w #[] 0 (Nat.le_refl _) (by unfold maxLen; omega) rfl, (Below.refl _ _).alloc (Nat.le_refl _) _⟩
  have HO := Lib.hid ho0
  clear ha hm hfin ho0
  go_enter Tryz.func11, Tryz.ntmps11
  go_upto_region 2 with fail
  generalize w.alloc (.cells #[] 43) = w1 at *
  go_wp2_with fail
  go_loopw [9, 10, 11] (fun ov bv iv wr => ∃ i : Nat, i ≤ m ∧ iv = .int .i64 i ∧ bv = .bool (wthA k v (la.take i) ([], gone)).2 ∧ Hid (OutR w wr ov (wthA k v (la.take i) ([], gone)).1)) (fun _ _ iv _ => m - (intOf iv).toNat)
  case atStart => exact ⟨0, by omega, rfl, rfl, HO⟩
  case round =>
    obtain ⟨i, hi1, rfl, rfl, HR⟩ := hrel
    have hql := wthA_len k v (la.take i) ([], gone)
    rw [List.length_take] at hql
    simp only [List.length_nil] at hql
    by_cases hlt : i < m
    · have hxl : i < la.length := by rw [HM.out]; exact hlt
      have hx : la[i]? = some la[i] := List.getElem?_eq_getElem hxl
      have htx : la.take (i + 1) = la.take i ++ [la[i]] := List.take_succ_eq_append_getElem hxl
      generalize la[i] = x at *
      have hstep : wthA k v (la.take (i + 1)) ([], gone) = stepW k v x (wthA k v (la.take i) ([], gone)) := by rw [htx, wthA_snoc]
      have hlti : (i : Int) < (m : Int) := by omega
      generalize wthA k v (la.take i) ([], gone) = q at *
      obtain ⟨o, b⟩ := q
      simp only at hql
      have hql2 : o.length ≤ 200000 := by omega
      have HX := Lib.hid (And.intro hx hstep)
      have hsrr := HA.out.below HR.out.2
      obtain ⟨b0, off, rfl, hb0, -, r⟩ := sr_block_J hsrr (by omega)
      obtain ⟨r0, r1⟩ := r i x hx
      have HRR := Lib.hid (And.intro r0 (And.intro r1 hb0))
      obtain ⟨lb, hlb⟩ : ∃ lb, ltK x.k k = lb := ⟨_, rfl⟩
      have hlb2 : Op.bytesLess x.k.toList k.toList = lb := hlb
      have HLB := Lib.hid hlb
      clear r hx htx hstep hsrr hlb hql
      obtain ⟨tb, htb⟩ : ∃ tb, (!b && !lb) = tb := ⟨_, rfl⟩
      have HTB := Lib.hid htb
      obtain ⟨K, hK⟩ : ∃ K, x.k = K := ⟨_, rfl⟩
      obtain ⟨V, hV⟩ : ∃ V, x.v = V := ⟨_, rfl⟩
      rw [hK] at r0 hlb2
      rw [hV] at r1
      go_upto_region 5 with fail
      go_cut [30] from 20 to 31 (fun tv wx => tv = .bool tb ∧ wr = wx)
      case first =>
        cases b with
        | true =>
          go_wp2_with fail
          go_meet
          exact ⟨by rw [← HTB.out]; rfl, rfl⟩
        | false =>
          cases lb with
          | true =>
            go_wp2_with fail
            go_meet
            exact ⟨by rw [← HTB.out]; rfl, rfl⟩
          | false =>
            go_wp2_with fail
            go_meet
            exact ⟨by rw [← HTB.out]; rfl, rfl⟩
      case rest =>
        obtain ⟨rfl, rfl⟩ := hcut
        go_upto_if 30 with fail
        go_cut [9, 10] (fun ov bv wx => ∃ (o1 : List JP) (b1 : Bool), (if b = false ∧ ltK x.k k = false then (o ++ [⟨k, v⟩], true) else (o, b)) = (o1, b1) ∧ bv = .bool b1 ∧ Hid (OutR w wx ov o1))
        case first =>
          cases tb with
          | true =>
            have hown := HR.out.1
            have hcond : b = false ∧ ltK x.k k = false := by
              have h1 := HTB.out
              rw [HLB.out]
              cases b <;> cases lb <;> simp_all
            have hlit := lit_pair wr ⟨k, v⟩
            have hownA := hown.alloc (.cells #[.string k, .string v] 43)
            have hN : w.heap.size ≤ (wr.alloc (.cells #[.string k, .string v] 43)).heap.size := Nat.le_trans HR.out.2.size (by simp)
            go_wp2_with (at_builtin; refine wp_app Tryz.underlying30 hi hz0 hz1 hz2 rfl (by decide) rfl _ _ rfl w.heap.size _ o.length (pCells o) rfl hownA _ 1 [.string k, .string v] rfl hlit (by simp [Value.oneCell']) (by unfold maxLen; omega) (by omega) hN ?_)
            intro v' w3 hown3 hgrow
            have hO := outR_app (x := ⟨k, v⟩) HR.out hown3 hgrow
            go_wp2_with fail
            go_meet
            exact ⟨o ++ [⟨k, v⟩], true, by rw [if_pos hcond], rfl, Lib.hid hO⟩
          | false =>
            have hcond : ¬ (b = false ∧ ltK x.k k = false) := by
              rintro ⟨h1, h2⟩
              have h3 := HTB.out
              rw [HLB.out] at h2
              subst h1 h2
              cases h3
            go_wp2_with fail
            go_meet
            exact ⟨o, b, by rw [if_neg hcond], rfl, HR⟩
        case rest =>
          obtain ⟨o1, b1, hq1, rfl, HR1⟩ := hcut
          have hl1 : o1.length ≤ 200001 := by
            have : (o1, b1).1.length ≤ 200001 := by
              rw [← hq1]
              split <;> simp <;> omega
            exact this
          have hstp : stepW k v x (o, b) = if x.k = k then (o1, b1) else (o1 ++ [x], b1) := by
            unfold stepW
            simp only
            rw [hq1]
          have hbk := HA.out.below HR1.out.2
          obtain ⟨b2, off2, he, -, -, r⟩ := sr_block_J hbk (by omega)
          cases he
          obtain ⟨r0', r1'⟩ := r i x HX.out.1
          rw [hK] at r0'
          rw [hV] at r1'
          have HST := Lib.hid hstp
          clear hq1 hstp hbk r r0 r1
          by_cases hkk : x.k = k
          · have e1 : (K.toList == k.toList) = true := by rw [← hK, hkk]; simp
            have hs1 : wthA k v (la.take (i + 1)) ([], gone) = (o1, b1) := by rw [HX.out.2, HST.out, if_pos hkk]
            have HS1 := Lib.hid hs1
            have e2 : K = k := by rw [← hK, hkk]
            subst e2
            clear hs1 hkk
            go_wp2_with fail
            go_roundw
            case rel => exact ⟨i + 1, by omega, by go_num, by rw [HS1.out], by rw [HS1.out]; exact HR1⟩
            case measure => simp [intOf]; omega
          · have hne : K ≠ k := by rw [← hK]; exact hkk
            have e1 : (K.toList == k.toList) = false := by
              rw [beq_eq_false_iff_ne]
              intro e
              rw [ByteArray.toList_eq, ByteArray.toList_eq] at e
              exact hne (str_ext e)
            have hs1 : wthA k v (la.take (i + 1)) ([], gone) = (o1 ++ [x], b1) := by rw [HX.out.2, HST.out, if_neg hkk]
            have HS1 := Lib.hid hs1
            have hown := HR1.out.1
            have hlit := lit_pair wc x
            rw [hK, hV] at hlit
            have hownA := hown.alloc (.cells #[.string K, .string V] 43)
            have hN : w.heap.size ≤ (wc.alloc (.cells #[.string K, .string V] 43)).heap.size := Nat.le_trans HR1.out.2.size (by simp)
            clear hs1 hkk
            go_wp2_with (at_builtin; refine wp_app Tryz.underlying30 hi hz0 hz1 hz2 rfl (by decide) rfl _ _ rfl w.heap.size _ o1.length (pCells o1) rfl hownA _ 1 [.string K, .string V] rfl hlit (by simp [Value.oneCell']) (by unfold maxLen; omega) (by omega) hN ?_)
            intro v' w3 hown3 hgrow
            have hO := outR_app (x := x) HR1.out (by rw [hK, hV]; exact hown3) (by rw [hK, hV]; exact hgrow)
            go_wp2_with fail
            go_roundw
            case rel => exact ⟨i + 1, by omega, by go_num, by rw [HS1.out], by rw [HS1.out]; exact Lib.hid hO⟩
            case measure => simp [intOf]; omega
    · obtain rfl : i = m := by omega
      have htake : la.take i = la := List.take_of_length_le (by rw [HM.out]; omega)
      rw [htake] at HR hql
      try rw [htake]
      have hf := HF.out
      generalize wthA k v la ([], gone) = q at *
      obtain ⟨o, b⟩ := q
      cases b with
      | true =>
        have hf2 : o = wthK k v gone la := by rw [← hf]; rfl
        have HF2 := Lib.hid hf2
        clear hf hf2
        go_wp2_with fail
        go_returns
        exact ⟨_, rfl, by rw [← HF2.out]; exact HR.out⟩
      | false =>
        have hf2 : o ++ [⟨k, v⟩] = wthK k v gone la := by rw [← hf]; rfl
        have HF2 := Lib.hid hf2
        have hol : o.length ≤ 200000 := by simpa using (show o.length ≤ 200000 by have := hql; simp only at this; omega)
        have hown := HR.out.1
        have hlit := lit_pair wr ⟨k, v⟩
        have hownA := hown.alloc (.cells #[.string k, .string v] 43)
        have hN : w.heap.size ≤ (wr.alloc (.cells #[.string k, .string v] 43)).heap.size := Nat.le_trans HR.out.2.size (by simp)
        clear hf hf2
        go_wp2_with (at_builtin; refine wp_app Tryz.underlying30 hi hz0 hz1 hz2 rfl (by decide) rfl _ _ rfl w.heap.size _ o.length (pCells o) rfl hownA _ 1 [.string k, .string v] rfl hlit (by simp [Value.oneCell']) (by unfold maxLen; omega) (by omega) hN ?_)
        intro v' w3 hown3 hgrow
        have hO := outR_app (x := ⟨k, v⟩) HR.out hown3 hgrow
        rw [HF2.out] at hO
        have HO3 := Lib.hid hO
        clear hO hown3 hgrow
        go_wp2_with fail
        go_returns
        exact ⟨_, rfl, HO3.out⟩
end Go.Proofs.YtgnnijpfkgmomaaGreatDoor
