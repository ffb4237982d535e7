/-
  The law's own functions of layer 7: same, bytes, key, value.
-/
import Derived.Test.YtgnnijpfkgmomaaGreatDoorMh16
import Derived.Test.YtgnnijpfkgmomaaGreatDoorMask
import Derived.Test.YtgnnijpfkgmomaaGreatDoorEq
namespace Go.Proofs.YtgnnijpfkgmomaaGreatDoor
open Go.RowKit
set_option linter.unusedVariables false
set_option linter.unusedSimpArgs false

theorem pairkey : Tryz.prog.keyTypeAt 4 43 = true := by kernel_rfl
theorem pair_formed (a b : ByteArray) : (Value.agg #[.string a, .string b]).formed Tryz.prog 43 = true := by kernel_rfl
theorem pair_lits (a b : ByteArray) (ha : a.size ≤ maxLen) (hb : b.size ≤ maxLen) : Tryz.prog.keyLits 4 43 [.string a, .string b] = some [.string a.data.toList, .string b.data.toList] := by
  have c1 : Tryz.prog.cellsOf 43 = 2 := by kernel_rfl
  have c4 : Tryz.prog.cellsOf 9 = 1 := by kernel_rfl
  simp [Program.keyLits, Tryz.underlying43, Tryz.underlying9, c1, c4, ha, hb]
theorem pair_neq (x y : JP) (w : World) (h1 : x.k.size ≤ maxLen) (h2 : x.v.size ≤ maxLen) (h3 : y.k.size ≤ maxLen) (h4 : y.v.size ≤ maxLen) (b : Bool) (hb : b = true ↔ x = y) :
    (binOp .neq 43 (.agg #[.string x.k, .string x.v]) (.agg #[.string y.k, .string y.v])).run Tryz.prog w = .ok (.bool (!b)) w := by
  refine (eq_deep (m := 4) (D := 4) (D' := 4) pairkey (by decide) (pair_formed x.k x.v) (pair_formed y.k y.v) (pair_lits x.k x.v h1 h2) (pair_lits y.k y.v h3 h4) b ?_ w).2
  rw [hb]
  constructor
  · rintro rfl; rfl
  · intro e
    simp only [List.cons.injEq, Lit.string.injEq, and_true] at e
    cases x; cases y
    simp only [JP.mk.injEq]
    exact ⟨str_ext e.1, str_ext e.2⟩
/-- pairs of small keys and values -/
def smallP (l : List JP) : Prop := ∀ p ∈ l, p.k.size ≤ 1000000 ∧ p.v.size ≤ 1000000
instance : DecidableEq JP := fun a b => decidable_of_iff (a.k = b.k ∧ a.v = b.v) ⟨fun h => by cases a; cases b; simp only [JP.mk.injEq]; exact h, fun h => by rw [h]; exact ⟨rfl, rfl⟩⟩
set_option maxHeartbeats 1600000 in
set_option maxRecDepth 100000 in
theorem lsame {va vb : Value} {la lb : List JP} {w : World} (ha : SR w va 2 la.length (pCells la)) (hb : SR w vb 2 lb.length (pCells lb)) (h1 : smallP la) (h2 : smallP lb) :
    Calls Tryz.prog 16 #[va, vb] w fun e w' => e = .returned (.bool (decide (la = lb))) ∧ Below w.heap.size w w' := by
  obtain ⟨aa, ca, rfl, ha1, ha2⟩ := ha.form
  obtain ⟨ab, cb, rfl, hb1, hb2⟩ := hb.form
  obtain ⟨m, hm⟩ : ∃ m, la.length = m := ⟨_, rfl⟩
  obtain ⟨n, hn⟩ : ∃ n, lb.length = n := ⟨_, rfl⟩
  rw [hm] at ha ha1 ⊢
  rw [hn] at hb hb1 ⊢
  have HA := Lib.hid ha
  have HB := Lib.hid hb
  have HM := Lib.hid (And.intro hm hn)
  have HS := Lib.hid (And.intro h1 h2)
  unfold maxLen at ha2 hb2
  obtain ⟨rb, hrb⟩ : ∃ rb, decide (la = lb) = rb := ⟨_, rfl⟩
  have HRB := Lib.hid hrb
  rw [hrb]
  clear ha hb h1 h2 hm hn hrb
  go_enter Tryz.func16, Tryz.ntmps16
  by_cases hmn : m = n
  · subst hmn
    go_wp2_with fail
    go_loopw [5] (fun iv wr => Hid (Below w.heap.size w wr) ∧ ∃ i : Nat, i ≤ m ∧ iv = .int .i64 i ∧ Hid (la.take i = lb.take i)) (fun iv _ => m - (intOf iv).toNat)
    case atStart => exact ⟨Lib.hid (Below.refl _ _), 0, by omega, rfl, Lib.hid (by simp)⟩
    case round =>
      obtain ⟨HBR, i, hi, rfl, HT⟩ := hrel
      by_cases hlt : i < m
      · have hxl : i < la.length := by rw [HM.out.1]; exact hlt
        have hyl : i < lb.length := by rw [HM.out.2]; exact hlt
        have hx : la[i]? = some la[i] := List.getElem?_eq_getElem hxl
        have hy : lb[i]? = some lb[i] := List.getElem?_eq_getElem hyl
        have htx : la.take (i + 1) = la.take i ++ [la[i]] := List.take_succ_eq_append_getElem hxl
        have hty : lb.take (i + 1) = lb.take i ++ [lb[i]] := List.take_succ_eq_append_getElem hyl
        have hsx := HS.out.1 _ (List.getElem_mem hxl)
        have hsy := HS.out.2 _ (List.getElem_mem hyl)
        generalize la[i] = x at *
        generalize lb[i] = y at *
        have hlti : (i : Int) < (m : Int) := by omega
        obtain ⟨b0, off, rfl, -, -, r⟩ := sr_block_J (HA.out.below HBR.out) (by omega)
        obtain ⟨r0, r1⟩ := r i x hx
        obtain ⟨b2, off2, rfl, -, -, s⟩ := sr_block_J (HB.out.below HBR.out) (by omega)
        obtain ⟨s0, s1⟩ := s i y hy
        obtain ⟨bq, hbq⟩ : ∃ bq, bq = decide (x = y) := ⟨_, rfl⟩
        have hne := fun w => pair_neq x y w (by unfold maxLen; omega) (by unfold maxLen; omega) (by unfold maxLen; omega) (by unfold maxLen; omega) bq (by rw [hbq]; simp)
        have HXY := Lib.hid (And.intro hx (And.intro hy (And.intro htx (And.intro hty hbq))))
        clear hx hy htx hty hbq hsx hsy r s
        cases bq with
        | true =>
          simp only [Bool.not_true] at hne
          go_upto_region 6 with fail
          go_region
          go_wp2_with fail
          go_roundw
          case rel =>
            refine ⟨Lib.hid (below_drewN' HBR.out 1), i + 1, by omega, by go_num, Lib.hid ?_⟩
            have hxy : x = y := of_decide_eq_true HXY.out.2.2.2.2.symm
            rw [HXY.out.2.2.1, HXY.out.2.2.2.1, HT.out, hxy]
          case measure => simp [intOf]; omega
        | false =>
          simp only [Bool.not_false] at hne
          have hxy : x ≠ y := of_decide_eq_false HXY.out.2.2.2.2.symm
          have hd : decide (la = lb) = false := decide_eq_false fun e => by
            subst e
            have := HXY.out.1.symm.trans HXY.out.2.1
            injection this with this
            exact hxy this
          obtain rfl : rb = false := HRB.out.symm.trans hd
          go_upto_region 6 with fail
          go_region
          go_wp2_with fail
          go_returns
          exact ⟨rfl, below_drewN' HBR.out 1⟩
      · obtain rfl : i = m := by omega
        have hd : decide (la = lb) = true := decide_eq_true (by
          have := HT.out
          rw [List.take_of_length_le (by rw [HM.out.1]; omega), List.take_of_length_le (by rw [HM.out.2]; omega)] at this
          exact this)
        obtain rfl : rb = true := HRB.out.symm.trans hd
        go_wp2_with fail
        go_returns
        exact ⟨rfl, HBR.out⟩
  · have hd : decide (la = lb) = false := decide_eq_false fun e => hmn (by rw [← HM.out.1, ← HM.out.2, e])
    have hmi : ¬ (m : Int) = (n : Int) := by omega
    obtain rfl : rb = false := HRB.out.symm.trans hd
    go_wp2_with fail
    go_returns
    exact ⟨rfl, Below.refl _ _⟩
end Go.Proofs.YtgnnijpfkgmomaaGreatDoor
