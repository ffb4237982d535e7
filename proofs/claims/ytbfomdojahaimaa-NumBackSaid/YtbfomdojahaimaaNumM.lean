/-
  What was put is taken again: plain facts; NumBack's walk.
-/
import Derived.Test.YtbfomdojahaimaaNumL
namespace Go.Proofs.Ytbfomdojahaimaa
open Go.RowKit
set_option linter.unusedVariables false

theorem takeB_ok (s : List UInt8) (n : Nat) (h : n ≤ s.length) : (⟨s, 0⟩ : RS).takeB (n : Int) = s.take n := by
  have : ¬ ((n : Int) < 0 ∨ (s.length : Int) < n) := by omega
  rw [RS.takeB, if_neg (by simp), if_neg this]
  simp
theorem takeS_ok (s : List UInt8) (n : Nat) (h : n ≤ s.length) : (⟨s, 0⟩ : RS).takeS (n : Int) = ⟨s.drop n, 0⟩ := by
  have : ¬ ((n : Int) < 0 ∨ (s.length : Int) < n) := by omega
  rw [RS.takeS, if_neg (by simp), if_neg this]
  simp
theorem num_head (c : UInt8) (s : List UInt8) (L : Nat) (hc : c.toNat ≤ 8) (hs : c.toNat ≤ s.length) :
    (⟨c :: s, 0⟩ : RS).numV L = numV2 (s.take c.toNat) L ∧ (⟨c :: s, 0⟩ : RS).numS L = numS2 ⟨s.drop c.toNat, 0⟩ (s.take c.toNat) L := by
  have b1 : (⟨c :: s, 0⟩ : RS).takeB 1 = [c] := takeB_ok (c :: s) 1 (by simp)
  have s1 : (⟨c :: s, 0⟩ : RS).takeS 1 = ⟨s, 0⟩ := takeS_ok (c :: s) 1 (by simp)
  have hn : ¬ 8 < c.toNat := by omega
  constructor
  · rw [RS.numV, b1, s1, numV1, if_neg (by simp)]
    show (if 8 < c.toNat then 0 else numV2 ((⟨s, 0⟩ : RS).takeB c.toNat) L) = _
    rw [if_neg hn, takeB_ok s _ hs]
  · rw [RS.numS, b1, s1, numS1, if_neg (by simp)]
    show (if 8 < c.toNat then (⟨s, 0⟩ : RS).fail 3 else numS2 ((⟨s, 0⟩ : RS).takeS c.toNat) ((⟨s, 0⟩ : RS).takeB c.toNat) L) = _
    rw [if_neg hn, takeB_ok s _ hs, takeS_ok s _ hs]
theorem num_put (n : Nat) (h : n < 18446744073709551616) (rest : List UInt8) (L : Nat) (hL : n ≤ L) :
    (⟨putN n ++ rest, 0⟩ : RS).numV L = n ∧ (⟨putN n ++ rest, 0⟩ : RS).numS L = ⟨rest, 0⟩ := by
  have hl := needN_le n h
  have hc : (UInt8.ofNat (needN n)).toNat = needN n := by simp; omega
  have hlen : (hiN n).length = needN n := hiN_length n
  have e : putN n ++ rest = UInt8.ofNat (needN n) :: (hiN n ++ rest) := rfl
  have ht : (hiN n ++ rest).take (needN n) = hiN n := by rw [← hlen]; exact List.take_left
  have hd : (hiN n ++ rest).drop (needN n) = rest := by rw [← hlen]; exact List.drop_left
  obtain ⟨h1, h2⟩ := num_head (UInt8.ofNat (needN n)) (hiN n ++ rest) L (by omega) (by rw [hc, List.length_append]; omega)
  rw [e, h1, h2, hc, ht, hd]
  by_cases h0 : n = 0
  · subst h0
    rw [hiN_zero]
    exact ⟨rfl, rfl⟩
  · obtain ⟨c, l, hcl, hcn⟩ := hiN_head n h0 h
    have hv := valN_hiN n h
    rw [hcl] at hv ⊢
    have : ¬ ((c :: l).getD 0 0 = 0 ∨ L < valN (c :: l)) := by
      rw [hv]
      intro hx
      exact hx.elim (fun e => hcn (by simpa using e)) (by omega)
    rw [numV2, numS2, if_neg (by simp), if_neg this, if_neg (by simp), if_neg this]
    exact ⟨hv, rfl⟩
theorem text_put (b rest : List UInt8) (L : Int) (hL : b.length ≤ L) (h16 : b.length ≤ 65536) :
    (⟨putN b.length ++ b ++ rest, 0⟩ : RS).textB L = b ∧ (⟨putN b.length ++ b ++ rest, 0⟩ : RS).textS L = ⟨rest, 0⟩ := by
  obtain ⟨h1, h2⟩ := num_put b.length (by omega) (b ++ rest) (min L 65536).toNat (by omega)
  rw [RS.textB, RS.textS, List.append_assoc, h1, h2, takeB_ok _ _ (by simp), takeS_ok _ _ (by simp)]
  exact ⟨List.take_left, by rw [List.drop_left]⟩
theorem word_put (n : Nat) (h : n ≤ 4294967295) (rest : List UInt8) : (⟨beN 4 n ++ rest, 0⟩ : RS).wordV = n ∧ (⟨beN 4 n ++ rest, 0⟩ : RS).takeS 4 = ⟨rest, 0⟩ := by
  have hl : (beN 4 n).length = 4 := beN_length 4 n
  have b1 := takeB_ok (beN 4 n ++ rest) 4 (by rw [List.length_append]; omega)
  have s1 := takeS_ok (beN 4 n ++ rest) 4 (by rw [List.length_append]; omega)
  have ht : (beN 4 n ++ rest).take 4 = beN 4 n := by rw [← hl]; exact List.take_left
  have hd : (beN 4 n ++ rest).drop 4 = rest := by rw [← hl]; exact List.drop_left
  refine ⟨?_, by rw [show (4 : Int) = ((4 : Nat) : Int) from rfl, s1, hd]⟩
  rw [RS.wordV, show (4 : Int) = ((4 : Nat) : Int) from rfl, b1, ht, valN_beN, Nat.mod_eq_of_lt (by omega)]
def flatN (l : List Int) : List UInt8 := l.flatMap fun x => putN x.toNat
theorem ints_put (l : List Int) (rest : List UInt8) (L : Nat) (hl : ∀ x ∈ l, 0 ≤ x ∧ x ≤ (L : Int)) (hL : L < 18446744073709551616) (k : Nat) (hk : k ≤ l.length) :
    intsR ⟨flatN l ++ rest, 0⟩ L k = (⟨flatN (l.drop k) ++ rest, 0⟩, l.take k) := by
  induction k with
  | zero => simp [intsR]
  | succ k ih =>
    have hlt : k < l.length := by omega
    have hx := hl l[k] (List.getElem_mem hlt)
    have hd : l.drop k = l[k] :: l.drop (k + 1) := List.drop_eq_getElem_cons hlt
    have e : flatN (l.drop k) ++ rest = putN l[k].toNat ++ (flatN (l.drop (k + 1)) ++ rest) := by rw [hd, flatN, List.flatMap_cons, List.append_assoc]; rfl
    obtain ⟨h1, h2⟩ := num_put l[k].toNat (by omega) (flatN (l.drop (k + 1)) ++ rest) L (by omega)
    rw [intsR, ih (by omega), if_neg (by simp)]
    simp only
    rw [e, h1, h2, List.take_succ_eq_append_getElem hlt, Int.toNat_of_nonneg hx.1]
theorem list_put (l : List Int) (rest : List UInt8) (many limit : Int) (hm : l.length ≤ many) (hL : limit ≤ 9223372036854775807) (hl : ∀ x ∈ l, 0 ≤ x ∧ x ≤ limit) (hn : l.length ≤ 1000) :
    (⟨listN l ++ rest, 0⟩ : RS).listV many limit = l ∧ (⟨listN l ++ rest, 0⟩ : RS).listS many limit = ⟨rest, 0⟩ := by
  obtain ⟨h1, h2⟩ := num_put l.length (by omega) (flatN l ++ rest) many.toNat (by omega)
  have e : listN l ++ rest = putN l.length ++ (flatN l ++ rest) := by simp [listN, flatN]
  have hi := ints_put l rest limit.toNat (fun x hx => ⟨(hl x hx).1, by have := hl x hx; omega⟩) (by omega) l.length (Nat.le_refl _)
  have hS : (⟨listN l ++ rest, 0⟩ : RS).listS many limit = ⟨rest, 0⟩ := by
    rw [RS.listS, e, h1, h2, hi]
    simp [flatN]
  refine ⟨?_, hS⟩
  rw [RS.listV, hS, if_neg (by simp), e, h1, h2, hi]
  simp

theorem num_long (l : List UInt8) (h : l.length ≤ 7) (L : Nat) :
    (⟨UInt8.ofNat (l.length + 1) :: 0 :: l, 0⟩ : RS).numV L = 0 ∧ (⟨UInt8.ofNat (l.length + 1) :: 0 :: l, 0⟩ : RS).numS L = ⟨[], 3⟩ := by
  have hc : (UInt8.ofNat (l.length + 1)).toNat = l.length + 1 := by simp; omega
  obtain ⟨h1, h2⟩ := num_head (UInt8.ofNat (l.length + 1)) (0 :: l) L (by omega) (by rw [hc]; simp)
  rw [h1, h2, hc]
  have ht : (0 :: l).take (l.length + 1) = 0 :: l := List.take_of_length_le (by simp)
  rw [ht, numV2, numS2]
  simp [RS.fail]
theorem Src.other {w w' : World} {b c : Nat} {r : RS} (h : Src w c r) (ho : Only b w w') (hne : c ≠ b) : Src w' c r := (ho.block c h.lt hne).trans h
/-- bits of the lower 24 -/
theorem and24 (x : Int) : bits .and .i64 x 16777215 = x % 16777216 := by
  have hm : (BitVec.ofInt 64 16777215).toNat = 2 ^ 24 - 1 := by decide
  have hk : (BitVec.ofInt 64 x &&& BitVec.ofInt 64 16777215).toNat = (x % ((2 ^ 64 : Nat) : Int)).toNat % 2 ^ 24 := by
    rw [BitVec.toNat_and, BitVec.toNat_ofInt, hm, Nat.and_two_pow_sub_one_eq_mod]
  show IntKind.i64.wrap ((BitVec.ofInt 64 x &&& BitVec.ofInt 64 16777215).toNat : Nat) = x % 16777216
  rw [hk, IntKind.wrap_i64]
  omega
set_option maxHeartbeats 800000 in
/-- two slices of ints that read alike are the same -/
theorem same_any (u v : Value) (l : List Int) (w : World) (hu : Ints w u l) (hv : Ints w v l) :
    Calls Try.prog 23 #[u, v] w fun e w' => e = .returned (.bool true) ∧ Below w.heap.size w w' := by
  obtain ⟨a, cap, rfl, hm, ha⟩ := hu
  obtain ⟨b, cap', rfl, _, hb⟩ := hv
  go_enter Try.func23, Try.ntmps23
  go_wp2_with fail
  go_loopw [5] (fun i wr => ∃ k : Nat, k ≤ l.length ∧ i = .int .i64 k ∧ Below w.heap.size w wr) (fun i _ => l.length - (intOf i).toNat)
  case atStart => exact ⟨0, Nat.zero_le _, rfl, Below.refl _ _⟩
  case round =>
    obtain ⟨k, hk, rfl, hbel⟩ := hrel
    by_cases hlt : k < l.length
    · obtain ⟨g, off, rfl, hg, hcg⟩ := ha.resolve_left (fun e => by simp [e] at hlt)
      obtain ⟨g', off', rfl, hg', hcg'⟩ := hb.resolve_left (fun e => by simp [e] at hlt)
      have c1 : wr.cell? ⟨g, off + k, none⟩ = some (.int .i64 (l.getD k 0)) := by rw [hbel.cell hg]; exact hcg k hlt
      have c2 : wr.cell? ⟨g', off' + k, none⟩ = some (.int .i64 (l.getD k 0)) := by rw [hbel.cell hg']; exact hcg' k hlt
      generalize l.getD k 0 = x at *
      clear hcg hcg' ha hb
      go_wp2
      go_quiet (fail)
      go_wp2
      go_roundw
      case rel => exact ⟨k + 1, by omega, by go_num, below_drewN' hbel _⟩
      case measure => simp [intOf]; omega
    · go_wp2
      go_ret
      exact ⟨rfl, hbel⟩
/-- a slice of the call's own reads as its numbers -/
theorem Ints.owned {w : World} {base : Nat} {v : Value} {l : List Int} (h : w.ownsRow base 3 1 v l.length (iCells l)) (hl : l.length ≤ 9223372036854775807) : Ints w v l := by
  rcases h.2 with ⟨rfl, hn⟩ | ⟨g, cap, cur, rfl, hb, hg, hnc, hcm, hcs, ht⟩
  · exact ⟨none, 0, by rw [hn], hl, .inl (List.eq_nil_of_length_eq_zero hn)⟩
  · refine ⟨some ⟨g, 0, none⟩, cap, rfl, hl, .inr ⟨g, 0, rfl, lt_heap hg, fun j hj => ?_⟩⟩
    have hc := h.cells (g := g) rfl j (.int .i64 (l.getD j 0)) (by simp [iCells, List.getD, hj])
    have ha : (⟨g, 0, none⟩ : Addr).add j = ⟨g, 0 + j, none⟩ := by unfold Addr.add; split <;> simp_all
    rw [← ha]
    exact hc

set_option maxHeartbeats 1600000 in
set_option maxRecDepth 100000 in
theorem back_law (n : Int) (s : ByteArray) (a : Option Addr) (len cap : Nat) (zs : List Int) (w : World) (hn : (Lit.int .u64 n).wf = true) (hs : s.size ≤ maxLen) (hr : RowOf .i64 w a len cap zs) :
    Calls Try.prog 4 #[.int .u64 n, .string s, .slice a len cap] w fun e w' => e = .returned (.bool true) ∧ Below w.heap.size w w' := by
  have hu := wf_u64 hn
  obtain ⟨t, ht⟩ : ∃ t, s.data.toList = t := ⟨_, rfl⟩
  have hst : s = ⟨t.toArray⟩ := by rw [← ht]
  have htl : t.length ≤ maxLen := ht ▸ hs
  subst hst
  have hlc : len ≤ cap ∧ cap ≤ maxLen := by
    rcases hr with ⟨_, rfl, rfl, _⟩ | ⟨_, _, h1, h2, _⟩
    · exact ⟨Nat.le_refl _, Nat.zero_le _⟩
    · exact ⟨h1, h2⟩
  obtain ⟨l, -, hl, hlz, hlr⟩ := hr.ints len (Nat.le_refl _)
  obtain ⟨i0, hi, hz0, hz1, hz2⟩ := info_parts info_int
  unfold maxLen at hlc htl
  have h0 := hu.1
  have HU := Lib.hid hu
  have HL := Lib.hid hl
  clear hn hu hs ht hr hlz hl
  go_enter Try.func4, Try.ntmps4
  go_wp2
  go_loopw [8, 9] (fun v i wr => ∃ k : Nat, k ≤ len ∧ k ≤ 30 ∧ i = .int .i64 k ∧ wr.ownsRow w.heap.size 3 1 v k (iCells ((l.take k).map (· % 16777216))) ∧ Below w.heap.size w wr) (fun _ i _ => 30 - (intOf i).toNat)
  case atStart =>
    exact ⟨0, Nat.zero_le _, by omega, rfl, ⟨rfl, Or.inr ⟨_, 0, #[], rfl, Nat.le_refl _, heap_alloc_self _ _, Nat.le_refl _, Nat.zero_le _, rfl, rfl⟩⟩, (Below.refl _ _).alloc (Nat.le_refl _) _⟩
  case round =>
    obtain ⟨k, hk, hk30, rfl, hown, hbel⟩ := hrel
    by_cases hlt : k < len ∧ k < 30
    · obtain ⟨hlt1, hlt2⟩ := hlt
      obtain ⟨b, off, rfl, hb0, hcell⟩ := hlr.resolve_left (by omega)
      have hck : wr.cell? ⟨b, off + k, none⟩ = some (.int .i64 (l.getD k 0)) := by rw [hbel.cell hb0]; exact hcell k hlt1
      have hsn : (l.take k).map (· % 16777216) ++ [l.getD k 0 % 16777216] = (l.take (k + 1)).map (· % 16777216) := by
        have := HL.out
        rw [List.take_succ_eq_append_getElem (by omega), List.map_append]
        simp [List.getD, show k < l.length by omega]
      obtain ⟨x, hx⟩ : ∃ x, l.getD k 0 = x := ⟨_, rfl⟩
      rw [hx] at hck hsn
      have HSN := Lib.hid hsn
      have hand := and24 x
      clear hsn hx hcell hlr
      go_wp2_with (at_builtin; refine wpList_append_own _ rfl (.tmp 34) (.tmp 40) 23 rfl w.heap.size 3 i0 (.int .i64 0) 1 8 Try.underlying23 hi hz0 hz1 hz2 rfl (by decide) _ _ _ rfl (hown.alloc _) ⟨wr.heap.size, 0, none⟩ 1 1 [.int .i64 (x % 16777216)] rfl rfl ?c1 ?c2 ?c3 ?c4 ?c5 ?_)
      try (case c1 => exact (cell_one_new _ _ _))
      case c2 => first | rfl | (intro u hu; simp at hu; subst hu; rfl)
      case c3 => unfold maxLen; omega
      case c4 => omega
      case c5 => have := hbel.size; simp; omega
      intro v' w2 hown2 hgr _
      have hb2 := (hbel.alloc hbel.size (.cells #[.int .i64 (x % 16777216)] 3)).grown hgr (by have := hbel.size; simp; omega) (fun q hq => (hown.lt q hq).1)
      have hown3 : w2.ownsRow w.heap.size 3 1 v' (k + 1) (iCells ((l.take (k + 1)).map (· % 16777216))) := by
        rw [← HSN.out]
        simpa [iCells] using hown2
      clear hown2 hgr hand
      go_wp2
      go_roundw
      case rel => exact ⟨k + 1, by omega, by omega, by go_num, hown3, hb2⟩
      case measure => simp [intOf]; omega
    · obtain ⟨ks, hks⟩ : ∃ ks, (l.take k).map (· % 16777216) = ks := ⟨_, rfl⟩
      have hkl : ks.length = k := by
        have := HL.out
        rw [← hks, List.length_map, List.length_take]; omega
      have hkz : ∀ x ∈ ks, 0 ≤ x ∧ x ≤ 16777215 := by
        intro x hx
        rw [← hks, List.mem_map] at hx
        obtain ⟨y, _, rfl⟩ := hx
        omega
      rw [hks] at hown
      have hints : Ints wr u8 ks := Ints.owned (by rw [hkl]; exact hown) (by omega)
      have HI := Lib.hid hints
      have HK := Lib.hid hkl
      have HZ := Lib.hid hkz
      have HB := Lib.hid hbel
      have hsz := hbel.size
      clear hks hkl hkz hints hlr hown hbel
      have e1 : ByteArray.extract ⟨t.toArray⟩ 0 (min (t.length : Int) 300).toNat = ⟨(t.take 300).toArray⟩ := by
        rw [str_take, show (min (t.length : Int) 300).toNat = min t.length 300 by omega]
        congr 2
        rw [List.take_eq_take_iff]
        omega
      have htt : (t.take 300).length ≤ 300 := List.length_take_le _ _
      have hu2 : U64 (n / 256) := by have := HU.out; unfold U64 at *; omega
      have HU2 := Lib.hid hu2
      have hlim : U64 18446744073709551615 := ⟨by decide, by decide⟩
      have HLIM := Lib.hid hlim
      clear hu2 hlim
      have hway : len ≤ k ∨ (k < len ∧ 30 ≤ k) := by omega
      obtain ⟨P, hP⟩ : ∃ P, putN n.toNat = P := ⟨_, rfl⟩
      have hP9 : P.length ≤ 9 := by rw [← hP]; exact putN_length _ (by have := HU.out; unfold U64 at this; omega)
      have HP := Lib.hid hP
      obtain ⟨tt, htt'⟩ : ∃ tt, t.take 300 = tt := ⟨_, rfl⟩
      rw [htt'] at htt e1
      obtain ⟨T, hT⟩ : ∃ T, putN tt.length ++ tt = T := ⟨_, rfl⟩
      have hT9 : T.length ≤ 309 := by rw [← hT, List.length_append]; have := putN_length tt.length (by omega); omega
      have HT := Lib.hid hT
      obtain ⟨W4, hW4⟩ : ∃ W4, beN 4 (n % 4294967296).toNat = W4 := ⟨_, rfl⟩
      have hW9 : W4.length ≤ 4 := by rw [← hW4, beN_length]; omega
      have HW4 := Lib.hid hW4
      obtain ⟨L, hLL⟩ : ∃ L, listN ks = L := ⟨_, rfl⟩
      have hL9 : L.length ≤ 1000 := by
        have h1 := flat_len ks (fun x hx => by have := HZ.out x hx; omega)
        have h2 := putN_length ks.length (by have := HK.out; omega)
        have h3 := HK.out
        rw [← hLL, listN, List.length_append]; omega
      have HLL := Lib.hid hLL
      clear hlt hP hT hW4 hLL htt'
      have hsa := str_append
      rcases hway with hx | ⟨hx, hx2⟩
      all_goals
        go_wp2_with fail
        refine (put_any n _ HU.out).mono ?_
        rw [HP.out]
        rintro e w1 ⟨rfl, hb⟩
        have hb1 := HB.out.trans (hb.mono HB.out.size)
        have hbk1 := hb
        clear hb
        simp only [e1]
        go_wp2_with fail
        refine (text_any tt _ (by omega)).mono ?_
        rw [HT.out]
        rintro e w2 ⟨rfl, hb⟩
        have hb2 := hb1.trans (hb.mono hb1.size)
        have hbk2 := hbk1.trans (hb.mono hbk1.size)
        clear hb hb1 hbk1
        go_wp2_with fail
        refine (word_any (n % 4294967296) _ (by omega) (by omega)).mono ?_
        rw [HW4.out]
        rintro e w3 ⟨rfl, hb⟩
        have hb3 := hb2.trans (hb.mono hb2.size)
        have hbk3 := hbk2.trans (hb.mono hbk2.size)
        clear hb hb2 hbk2
        go_wp2_with fail
        refine (list_any _ ks _ (HI.out.below hbk3) (by have := HK.out; omega) (fun x hx => by have := HZ.out x hx; omega)).mono ?_
        rw [HLL.out]
        rintro e w4 ⟨rfl, hb⟩
        have hb4 := hb3.trans (hb.mono hb3.size)
        have hbk4 := hbk3.trans (hb.mono hbk3.size)
        clear hb hb3 hbk3
        go_wp2_with fail
        refine (from_any _ _).mono ?_
        rintro e w5 ⟨rfl, hw5⟩
        obtain ⟨b, hbn⟩ : ∃ b, w4.heap.size = b := ⟨_, rfl⟩
        have hge : w.heap.size ≤ b := by rw [← hbn]; exact hb4.size
        have hgek : wr.heap.size ≤ b := by rw [← hbn]; exact hbk4.size
        have hs5 : Src w5 b ⟨putN n.toNat ++ (putN tt.length ++ tt ++ (beN 4 (n % 4294967296).toNat ++ (listN ks ++ []))), 0⟩ := by
          rw [HP.out, HT.out, HW4.out, HLL.out, ← hbn]
          subst hw5
          have := heap_alloc_self w4 (.cells #[.string ⟨(P ++ T ++ W4 ++ L).toArray⟩, .int .i64 0] 49)
          unfold Src
          simpa using this
        have hb5 : Below w.heap.size w w5 := by subst hw5; exact hb4.alloc hb4.size _
        have hbk5 : Below wr.heap.size wr w5 := by subst hw5; exact hbk4.alloc hbk4.size _
        rw [hbn]
        have HS5 := Lib.hid hs5
        clear hw5 hs5 hb4 hbk4 hbn
        obtain ⟨hv1, hv2⟩ := num_put n.toNat (by have := HU.out; unfold U64 at this; omega) (putN tt.length ++ tt ++ (beN 4 (n % 4294967296).toNat ++ (listN ks ++ []))) (18446744073709551615 : Int).toNat (by have := HU.out; unfold U64 at this; omega)
        go_wp2_with fail
        refine (num_src b _ _ _ HLIM.out HS5.out).mono ?_
        rw [hv1, hv2]
        rintro e w6 ⟨rfl, hs6, ho6⟩
        have HS6 := Lib.hid hs6
        clear hs6 hv1 hv2
        obtain ⟨hv1, hv2⟩ := text_put tt (beN 4 (n % 4294967296).toNat ++ (listN ks ++ [])) 300 (by omega) (by omega)
        go_wp2_with fail
        refine (text_src b _ _ _ HS6.out).mono ?_
        rw [hv1, hv2]
        rintro e w7 ⟨rfl, hs7, ho7⟩
        have HS7 := Lib.hid hs7
        clear hs7 hv1 hv2
        obtain ⟨hv1, hv2⟩ := word_put (n % 4294967296).toNat (by omega) (listN ks ++ [])
        go_wp2_with fail
        refine (sword_src b _ _ HS7.out).mono ?_
        rw [hv1, hv2]
        rintro e w8 ⟨rfl, hs8, ho8⟩
        have HS8 := Lib.hid hs8
        clear hs8 hv1 hv2
        obtain ⟨hv1, hv2⟩ := list_put ks [] 30 16777215 (by have := HK.out; omega) (by omega) HZ.out (by have := HK.out; omega)
        go_wp2_with fail
        refine (slist_src b _ _ _ _ (by omega) (by omega) HS8.out).mono ?_
        rintro e w9 ⟨v9, rfl, hown9, hs9, ho9⟩
        rw [hv1] at hown9
        rw [hv2] at hs9
        have HS9 := Lib.hid hs9
        clear hs9 hv1 hv2
        go_wp2_with fail
        have hb9 : Below w.heap.size w w9 := hb5.trans ((((ho6.trans ho7).trans ho8).trans ho9).below hge hb5.size)
        have hbk9 : Below wr.heap.size wr w9 := hbk5.trans ((((ho6.trans ho7).trans ho8).trans ho9).below hgek hbk5.size)
        have hi9 : Ints w9 v9 ks := Ints.owned hown9 (by have := HK.out; omega)
        have hi9' : Ints w9 u8 ks := HI.out.below hbk9
        have HI9 := Lib.hid hi9
        have HI9' := Lib.hid hi9'
        have hb9lt : b < w9.heap.size := HS9.out.lt
        clear ho6 ho7 ho8 ho9 HS5 HS6 HS7 HS8 hown9 hi9 hi9' hb5 hbk5 hbk9 hgek hsz
        refine (high_any _ _ HU2.out).mono ?_
        rintro e w10 ⟨rfl, hb⟩
        have hc10 : Below w9.heap.size w9 w10 := hb
        clear hb
        have hlg : (hiN (n / 256).toNat).length ≤ 7 := by
          rw [hiN_length]
          have h1 := HU.out
          have h2 := Lib.bitLen_le (n / 256).toNat 56 (by omega) (by unfold U64 at h1; omega)
          unfold needN; omega
        generalize hiN (n / 256).toNat = LG at *
        obtain ⟨C, hC⟩ : ∃ C, UInt8.ofNat (LG.length + 1) = C := ⟨_, rfl⟩
        have hCn : ((LG.length : Int) + 1) = (C.toNat : Int) := by rw [← hC]; simp; omega
        have hcv : ∀ w : World, (convert 39 9 (.slice (some ⟨w.heap.size, 0, none⟩) 2 2)).run Try.prog (w.alloc (.cells #[.int .u8 ((LG.length : Int) + 1), .int .u8 0] 5)) =
            .ok (.string ⟨[C, 0].toArray⟩) (w.alloc (.cells #[.int .u8 ((LG.length : Int) + 1), .int .u8 0] 5)) :=
          lit_string Try.underlying39 Try.underlying5 Try.underlying9 [C, 0] _ _ _ rfl (by rw [hCn]; rfl)
        have hsa2 : (⟨#[C, 0]⟩ : ByteArray) ++ ⟨LG.toArray⟩ = ⟨(C :: 0 :: LG).toArray⟩ := str_append [C, 0] LG
        have hnl := num_long LG hlg (18446744073709551615 : Int).toNat
        rw [hC] at hnl
        obtain ⟨hnv, hns⟩ := hnl
        clear hC hCn
        have HNV := Lib.hid hnv
        have HNS := Lib.hid hns
        clear hnv hns
        go_wp2_with fail
        refine (from_any _ _).mono ?_
        rintro e w11 ⟨rfl, hw11⟩
        obtain ⟨c, hcn⟩ : ∃ c, (w10.alloc (.cells #[.int .u8 ((LG.length : Int) + 1), .int .u8 0] 5)).heap.size = c := ⟨_, rfl⟩
        have hc9 : w9.heap.size ≤ c := by rw [← hcn]; have := hc10.size; simp; omega
        have hq11 : Src w11 c ⟨C :: 0 :: LG, 0⟩ := by subst hw11; rw [← hcn]; exact heap_alloc_self _ _
        have hc11 : Below w9.heap.size w9 w11 := by
          subst hw11
          exact ((hc10.alloc hc10.size _).alloc (by have := hc10.size; simp; omega) _)
        rw [hcn]
        have HQ := Lib.hid hq11
        clear hw11 hq11 hc10 hcv hsa2 hcn
        go_wp2_with fail
        refine (num_src c _ _ _ HLIM.out HQ.out).mono ?_
        rw [HNV.out, HNS.out]
        rintro e w12 ⟨rfl, hq12, ho12⟩
        have hc12 : Below w9.heap.size w9 w12 := hc11.trans (ho12.below hc9 hc11.size)
        have HQ12 := Lib.hid hq12
        clear ho12 hq12 hc11
        go_wp2_with fail
        refine (awake_any _).mono ?_
        rintro e w13 ⟨rfl, hb⟩
        have hc13 : Below w9.heap.size w9 w13 := hc12.trans (hb.mono hc12.size)
        have HQ13 := Lib.hid (HQ12.out.below hb)
        clear hb hc12
        have hm1 : max n 0 = n := by omega
        have hm2 : max (n % 4294967296) 0 = n % 4294967296 := by omega
        go_wp2_with fail
        refine (same_any _ _ ks _ (HI9.out.below hc13) (HI9'.out.below hc13)).mono ?_
        rintro e w14 ⟨rfl, hb⟩
        have hc14 : Below w9.heap.size w9 w14 := hc13.trans (hb.mono hc13.size)
        have HQ14 := Lib.hid (HQ13.out.below hb)
        clear hb hc13
        go_wp2_with fail
        refine (end_src b _ _ (HS9.out.below hc14)).mono ?_
        rw [show (⟨[], 0⟩ : RS).endS = ⟨[], 0⟩ from rfl]
        rintro e w15 ⟨rfl, hs15, ho15⟩
        have HQ15 := Lib.hid (HQ14.out.other ho15 (by omega))
        have hcell := HQ15.out.c1
        have hfin : Below w.heap.size w w15 := (hb9.trans (hc14.mono hb9.size)).trans (ho15.below hge (hb9.trans (hc14.mono hb9.size)).size)
        clear ho15 hs15 hc14
        go_wp2_with (go_at_call 25; refine (err_some _ _ _ hcell).mono ?_; rintro e w' ⟨rfl, rfl⟩)
        go_ret
        exact ⟨rfl, hfin⟩
end Go.Proofs.Ytbfomdojahaimaa
