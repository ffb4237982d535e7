/-
  hexa: what digits tell (digit, Get).
-/
import Derived.Test.YtbncifmmahgfeaaHexa
namespace Go.Proofs.Ytbncifmmahgfeaa
open Go.RowKit
set_option linter.unusedVariables false
set_option linter.unusedSimpArgs false

/-- what a digit tells -/
def digV (c : UInt8) : Option Nat := if 48 ≤ c.toNat ∧ c.toNat ≤ 57 then some (c.toNat - 48) else if 97 ≤ c.toNat ∧ c.toNat ≤ 102 then some (c.toNat - 87) else if 65 ≤ c.toNat ∧ c.toNat ≤ 70 then some (c.toNat - 55) else none
def digN (c : UInt8) : Nat := (digV c).getD 0
theorem digN_le (c : UInt8) : digN c ≤ 15 := by
  unfold digN digV
  split
  · simp; omega
  · split
    · simp; omega
    · split
      · simp; omega
      · simp
theorem hdigit (c : UInt8) (w : World) : Calls Try.prog 16 #[.int .u8 c.toNat] w fun e w' => e = .returned (.tuple #[.int .u8 (digN c), .bool (digV c).isSome]) ∧ w = w' := by
  have h256 := c.toNat_lt
  have hcase : (48 ≤ c.toNat ∧ c.toNat ≤ 57) ∨ (97 ≤ c.toNat ∧ c.toNat ≤ 102) ∨ (65 ≤ c.toNat ∧ c.toNat ≤ 70) ∨ ¬ (48 ≤ c.toNat ∧ c.toNat ≤ 57) ∧ ¬ (97 ≤ c.toNat ∧ c.toNat ≤ 102) ∧ ¬ (65 ≤ c.toNat ∧ c.toNat ≤ 70) := by omega
  have hv : digV c = if 48 ≤ c.toNat ∧ c.toNat ≤ 57 then some (c.toNat - 48) else if 97 ≤ c.toNat ∧ c.toNat ≤ 102 then some (c.toNat - 87) else if 65 ≤ c.toNat ∧ c.toNat ≤ 70 then some (c.toNat - 55) else none := rfl
  rcases hcase with h | h | h | ⟨h1, h2, h3⟩
  · have e : digV c = some (c.toNat - 48) := by rw [hv, if_pos h]
    have e2 : digN c = c.toNat - 48 := by unfold digN; rw [e]; rfl
    rw [e, e2]
    have hb : (((c.toNat - 48 : Nat)) : Int) = (c.toNat : Int) - 48 := by omega
    rw [hb]
    generalize c.toNat = n at *
    clear e e2 hb hv
    go_enter Try.func16, Try.ntmps16
    go_wp2_with fail
    go_returns
    exact ⟨rfl, rfl⟩
  · have e : digV c = some (c.toNat - 87) := by rw [hv, if_neg (by omega), if_pos h]
    have e2 : digN c = c.toNat - 87 := by unfold digN; rw [e]; rfl
    rw [e, e2]
    have hb : (((c.toNat - 87 : Nat)) : Int) = (c.toNat : Int) - 97 + 10 := by omega
    rw [hb]
    generalize c.toNat = n at *
    clear e e2 hb hv
    go_enter Try.func16, Try.ntmps16
    go_wp2_with fail
    go_returns
    exact ⟨rfl, rfl⟩
  · have e : digV c = some (c.toNat - 55) := by rw [hv, if_neg (by omega), if_neg (by omega), if_pos h]
    have e2 : digN c = c.toNat - 55 := by unfold digN; rw [e]; rfl
    rw [e, e2]
    have hb : (((c.toNat - 55 : Nat)) : Int) = (c.toNat : Int) - 65 + 10 := by omega
    rw [hb]
    generalize c.toNat = n at *
    clear e e2 hb hv
    go_enter Try.func16, Try.ntmps16
    go_wp2_with fail
    go_returns
    exact ⟨rfl, rfl⟩
  · have e : digV c = none := by rw [hv, if_neg h1, if_neg h2, if_neg h3]
    have e2 : digN c = 0 := by unfold digN; rw [e]; rfl
    rw [e, e2]
    generalize c.toNat = n at *
    clear e e2 hv
    have hr : n < 48 ∨ (57 < n ∧ n < 65) ∨ (70 < n ∧ n < 97) ∨ 102 < n := by omega
    rcases hr with h | ⟨h, h'⟩ | ⟨h, h'⟩ | h
    all_goals
      go_enter Try.func16, Try.ntmps16
      go_wp2_with fail
      go_returns
      exact ⟨rfl, rfl⟩
/-- the byte of two digits -/
def pairB (s : ByteArray) (k : Nat) : UInt8 := UInt8.ofNat (16 * digN (s.data.toList.getD (2 * k) 0) + digN (s.data.toList.getD (2 * k + 1) 0))
def valL (s : ByteArray) (n : Nat) : List UInt8 := (List.range n).map (pairB s)
theorem valL_succ (s : ByteArray) (n : Nat) : valL s (n + 1) = valL s n ++ [pairB s n] := by simp [valL, List.range_succ]
theorem valL_len (s : ByteArray) (n : Nat) : (valL s n).length = n := by simp [valL]
theorem getD_at (s : ByteArray) (j : Nat) (h : j < s.size) : s.data.toList.getD j 0 = s[j]'h := by
  have hl : j < s.data.toList.length := by rw [Array.length_toList]; exact h
  rw [List.getD_eq_getElem?_getD, List.getElem?_eq_getElem hl]; rfl
def getR (s : ByteArray) (L : Nat) : Value :=
  if L < s.size then .tuple #[.string ⟨#[]⟩, .int .i64 L, .int .i64 440] else if s.size % 2 = 1 then .tuple #[.string ⟨#[]⟩, .int .i64 ((s.size : Int) - 1), .int .i64 440] else .tuple #[.string ⟨(valL s (s.size / 2)).toArray⟩, .int .i64 0, .int .i64 0]
set_option maxRecDepth 100000 in
theorem or16 (h d : Nat) (hh : h ≤ 15) (hd : d ≤ 15) : bits .or .u8 ((h : Int) * 16) (d : Int) = ((h * 16 + d : Nat) : Int) := by
  have hf : ∀ h d : Fin 16, bits .or .u8 ((h.val : Int) * 16) ((d.val : Nat) : Int) = ((h.val * 16 + d.val : Nat) : Int) := by decide
  exact hf ⟨h, by omega⟩ ⟨d, by omega⟩
structure GetRel (s : ByteArray) (j : Nat) (b : Value) (w wr : World) : Prop where
  own : wr.ownsRow w.heap.size 5 1 b (j / 2) (bCells (valL s (j / 2)))
  bel : Below w.heap.size w wr
theorem get_even {s : ByteArray} {j : Nat} {b : Value} {w wr : World} (h : GetRel s j b w wr) (hev : j % 2 = 0) : GetRel s (j + 1) b w wr := by
  have e : (j + 1) / 2 = j / 2 := by omega
  exact ⟨by rw [e]; exact h.own, h.bel⟩
theorem get_odd {s : ByteArray} {j hv dd : Nat} {c : UInt8} {b b' : Value} {w wr w2 : World} {o : Obj} (h : GetRel s j b w wr) (hlt : j < s.size) (hodd : j % 2 = 1) (hc : s[j]'hlt = c) (hd : digN c = dd) (hd15 : dd ≤ 15) (hv15 : hv ≤ 15) (hvo : hv = digN (s.data.toList.getD (j - 1) 0))
    (own2 : w2.ownsRow w.heap.size 5 1 b' (j / 2 + 1) (bCells (valL s (j / 2)) ++ [.int .u8 ((hv * 16 + dd : Nat) : Int)])) (hg : (wr.alloc o).grownBy w2 b.ownBlock) : GetRel s (j + 1) b' w w2 := by
  have e : (j + 1) / 2 = j / 2 + 1 := by omega
  have e1 : 2 * (j / 2) = j - 1 := by omega
  have e2 : 2 * (j / 2) + 1 = j := by omega
  have hp : ((pairB s (j / 2)).toNat : Int) = ((hv * 16 + dd : Nat) : Int) := by
    unfold pairB
    rw [e2, e1, getD_at s j hlt, hc, hd, ← hvo]
    simp
    omega
  refine ⟨?_, below_app (h.bel.alloc h.bel.size o) hg (h.own.alloc o) (Nat.le_refl _) (by have := h.bel.size; simp; omega)⟩
  rw [e, valL_succ, ← bCells_append]
  have : bCells [pairB s (j / 2)] = [.int .u8 ((hv * 16 + dd : Nat) : Int)] := by simp only [bCells, List.map_cons, List.map_nil, hp]
  rw [this]
  exact own2
set_option maxHeartbeats 3200000 in
set_option maxRecDepth 100000 in
theorem hget (s : ByteArray) (L : Nat) (w : World) (hs : s.size ≤ 1000) (hL : L ≤ s.size) (hgood : ∀ k (h : k < s.size), k < L → (digV (s[k]'h)).isSome = true) (hbad : ∀ h : L < s.size, (digV (s[L]'h)).isSome = false) :
    Calls Try.prog 7 #[.string s] w fun e w' => e = .returned (getR s L) ∧ Below w.heap.size w w' := by
  obtain ⟨i0, hi, hz0, hz1, hz2⟩ := info_parts (show (Try.prog.info? 5).map (fun i => (i.zero, i.size, i.bytes)) = some (some (.int .u8 0), 1, 1) by kernel_rfl)
  obtain ⟨w1, hmk, hown, hgr⟩ := run_make_own (P := Try.prog) (w := w) w.heap.size 33 5 i0 _ 1 Try.underlying33 hi hz0 hz1 .i64 .i64 (s.size / 2) (by rw [hz2]; omega) (by unfold maxLen; omega) (Nat.le_refl _)
  rw [show ((s.size / 2 : Nat) : Int) = (s.size : Int) / 2 by omega] at hmk
  have hb1 : Below w.heap.size w w1 := (Below.refl _ _).grown hgr (Nat.le_refl _) (fun q hq => by cases hq)
  have HO1 := Lib.hid hown
  have HB1 := Lib.hid hb1
  have HG := Lib.hid hgood
  have HBD := Lib.hid hbad
  clear hown hgr hb1 hgood hbad
  go_enter Try.func7, Try.ntmps7
  go_wp2_with fail
  go_loopw [5, 6, 16] (fun b h i wr => ∃ j hv : Nat, j ≤ L ∧ i = .int .i64 j ∧ h = .int .u8 hv ∧ hv ≤ 15 ∧ (j % 2 = 1 → hv = digN (s.data.toList.getD (j - 1) 0)) ∧ GetRel s j b w wr) (fun _ _ i _ => s.size - (intOf i).toNat)
  case atStart => exact ⟨0, 0, Nat.zero_le _, rfl, rfl, by omega, by omega, HO1.out, HB1.out⟩
  case round =>
    obtain ⟨j, hv, hj, rfl, rfl, hv15, hvo, hrel⟩ := hrel
    obtain ⟨a5, cap5, rfl⟩ : ∃ a cap, u5 = .slice a (j / 2) cap := by
      obtain ⟨a, cap, e, _⟩ := (SR.owns hrel.own).form
      exact ⟨a, cap, e⟩
    have HR := Lib.hid hrel
    have HVO := Lib.hid hvo
    clear hrel hvo
    by_cases hlt : j < s.size
    · have hi1 : (j : Int) < (s.size : Int) := by omega
      obtain ⟨c, hc⟩ : ∃ c : UInt8, s[j]'hlt = c := ⟨_, rfl⟩
      have cd := fun w => hdigit c w
      by_cases hjL : j < L
      · have hg := HG.out j hlt hjL
        rw [hc] at hg
        rw [hg] at cd
        obtain ⟨dd, hdd⟩ : ∃ dd, digN c = dd := ⟨_, rfl⟩
        have hd15 := digN_le c
        rw [hdd] at cd hd15
        have HC := Lib.hid (And.intro hc hdd)
        clear hg hdd
        by_cases hev : j % 2 = 0
        · have hevi : (j : Int) % 2 = 0 := by omega
          go_wp2_with fail
          refine Calls.mono (cd _) ?_
          rintro e w2 ⟨rfl, rfl⟩
          go_wp2_with fail
          go_roundw
          case rel => exact ⟨j + 1, dd, by omega, by go_num, rfl, hd15, fun _ => by rw [Nat.add_sub_cancel, getD_at s j hlt, HC.out.1]; exact HC.out.2.symm, get_even HR.out hev⟩
          case measure => simp [intOf]; omega
        · have hodd : (j : Int) % 2 = 1 := by omega
          have hor := or16 hv dd hv15 hd15
          obtain ⟨x, hx⟩ : ∃ x : Int, ((hv * 16 + dd : Nat) : Int) = x := ⟨_, rfl⟩
          rw [hx] at hor
          have HXX := Lib.hid hx
          clear hx
          go_wp2_with fail
          refine Calls.mono (cd _) ?_
          rintro e w2 ⟨rfl, rfl⟩
          go_wp2_with (at_builtin; refine wp_app Try.underlying33 hi hz0 hz1 hz2 rfl (by decide) rfl (.tmp 33) (.tmp 38) rfl w.heap.size _ _ _ rfl (HR.out.own.alloc _) _ 1 [.int .u8 x] rfl (SR.lit _ _ _ 1 1 (by decide) rfl) ?c1 ?c2 ?c3 ?c4 ?_)
          case c1 => first | rfl | (intro y hy; simp at hy; subst hy; rfl)
          case c2 => unfold maxLen; omega
          case c3 => omega
          case c4 => have := HR.out.bel.size; simp; omega
          intro v' w3 hown2 hgr2
          have HO := Lib.hid hown2
          have HGR := Lib.hid hgr2
          clear hown2 hgr2
          go_wp2_with fail
          go_roundw
          case rel => exact ⟨j + 1, hv, by omega, by go_num, rfl, hv15, by omega, get_odd HR.out hlt (by omega) HC.out.1 HC.out.2 hd15 hv15 (HVO.out (by omega)) (by rw [HXX.out]; exact HO.out) HGR.out⟩
          case measure => simp [intOf]; omega
      · obtain rfl : j = L := by omega
        have hb := HBD.out hlt
        rw [hc] at hb
        rw [hb] at cd
        have hR : getR s j = .tuple #[.string ⟨#[]⟩, .int .i64 j, .int .i64 440] := by unfold getR; rw [if_pos hlt]
        have HRR := Lib.hid hR
        clear hR hb
        go_wp2_with fail
        refine Calls.mono (cd _) ?_
        rintro e w2 ⟨rfl, rfl⟩
        go_wp2_with fail
        go_returns
        exact ⟨by rw [HRR.out]; rfl, HR.out.bel⟩
    · obtain rfl : j = s.size := by omega
      obtain rfl : L = s.size := by omega
      by_cases hodd : s.size % 2 = 1
      · have hoi : (s.size : Int) % 2 = 1 := by omega
        have hR : getR s s.size = .tuple #[.string ⟨#[]⟩, .int .i64 ((s.size : Int) - 1), .int .i64 440] := by unfold getR; rw [if_neg (by omega), if_pos hodd]
        have HRR := Lib.hid hR
        clear hR
        go_wp2_with fail
        go_returns
        exact ⟨by rw [HRR.out]; rfl, HR.out.bel⟩
      · have hoi : (s.size : Int) % 2 = 0 := by omega
        have hR : getR s s.size = .tuple #[.string ⟨(valL s (s.size / 2)).toArray⟩, .int .i64 0, .int .i64 0] := by unfold getR; rw [if_neg (by omega), if_neg hodd]
        have hcv := owned_string (P := Try.prog) (src := 33) (dst := 9) Try.underlying33 Try.underlying5 Try.underlying9 HR.out.own
        have HRR := Lib.hid hR
        clear hR
        go_wp2_with fail
        go_returns
        exact ⟨by rw [HRR.out]; rfl, HR.out.bel⟩
end Go.Proofs.Ytbncifmmahgfeaa
