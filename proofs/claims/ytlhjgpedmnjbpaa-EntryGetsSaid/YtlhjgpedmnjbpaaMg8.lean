/-
  Several texts, laid together.
-/
import Derived.Test.YtlhjgpedmnjbpaaMg7
/-
  The contract of a source's Num.
-/

namespace Go.Proofs.Ytlhjgpedmnjbpaa
open Go.RowKit
set_option linter.unusedVariables false

def numS2 (q : RS) (b : List UInt8) (limit : Nat) : RS := if b = [] then q else if b.getD 0 0 = 0 ∨ limit < valN b then q.fail 3 else q
def numV2 (b : List UInt8) (limit : Nat) : Nat := if b = [] then 0 else if b.getD 0 0 = 0 ∨ limit < valN b then 0 else valN b
def numS1 (p : RS) (h : List UInt8) (limit : Nat) : RS := if h = [] then p else if 8 < (h.getD 0 0).toNat then p.fail 3 else numS2 (p.takeS (h.getD 0 0).toNat) (p.takeB (h.getD 0 0).toNat) limit
def numV1 (p : RS) (h : List UInt8) (limit : Nat) : Nat := if h = [] then 0 else if 8 < (h.getD 0 0).toNat then 0 else numV2 (p.takeB (h.getD 0 0).toNat) limit
def RS.numS (r : RS) (limit : Nat) : RS := numS1 (r.takeS 1) (r.takeB 1) limit
def RS.numV (r : RS) (limit : Nat) : Nat := numV1 (r.takeS 1) (r.takeB 1) limit
theorem str_idx (l : List UInt8) (k : Nat) (h : k < (⟨l.toArray⟩ : ByteArray).size) : (⟨l.toArray⟩ : ByteArray)[k] = l.getD k 0 := by
  have hk : k < l.length := by simpa [ByteArray.size] using h
  show l.toArray[k] = _
  simp [List.getD, hk]

theorem or_byte (x : Nat) (c : UInt8) (h : x < 72057594037927936) : bits .or .u64 (IntKind.u64.wrap ((x : Int) * 256)) (IntKind.u64.wrap (c.toNat : Int)) = ((x * 256 + c.toNat : Nat) : Int) := by
  have hc := c.toNat_lt
  rw [wrap_u64_in _ ⟨by omega, by omega⟩, wrap_u64_in _ ⟨by omega, by omega⟩, show ((x : Int) * 256) = ((x * 256 : Nat) : Int) by simp, u64_or_nat _ _ (by omega) (by omega)]
  have := Nat.two_pow_add_eq_or_of_lt (i := 8) (b := c.toNat) (by omega) x
  rw [Nat.mul_comm x 256]
  exact congrArg _ this.symm
theorem valN_take (l : List UInt8) (k : Nat) (h : k < l.length) : valN (l.take (k + 1)) = valN (l.take k) * 256 + (l.getD k 0).toNat := by
  rw [List.take_succ_eq_append_getElem h, valN_snoc]
  simp [List.getD, h]
theorem valN_small (l : List UInt8) (k : Nat) (h : k ≤ 7) : valN (l.take k) < 72057594037927936 := by
  have h1 := valN_lt (l.take k)
  have h2 : (l.take k).length ≤ 7 := Nat.le_trans (List.length_take_le _ _) h
  exact Nat.lt_of_lt_of_le h1 (Nat.le_trans (Nat.pow_le_pow_right (by omega) h2) (by decide))

theorem takeB_len (r : RS) (n : Int) : (r.takeB n).length ≤ n.toNat := by
  unfold RS.takeB
  split
  · simp
  · split
    · simp
    · exact List.length_take_le _ _

theorem num_nil (n : Int) (w : World) : Calls Try.prog 117 #[.pointer none, .int .u64 n] w fun e w' => e = .returned (.int .u64 0) ∧ w = w' := by
  go_enter Try.func117, Try.ntmps117
  go_wp2_with (go_at_call 119; refine (take_nil _ _).mono ?_; rintro e w' ⟨rfl, rfl⟩)
  go_ret
  exact ⟨rfl, rfl⟩

set_option maxHeartbeats 800000 in
set_option maxRecDepth 100000 in
theorem num_src (b : Nat) (r : RS) (limit : Int) (w : World) (hl : U64 limit) (h : Src w b r) :
    Calls Try.prog 117 #[.pointer (some ⟨b, 0, none⟩), .int .u64 limit] w fun e w' => e = .returned (.int .u64 (r.numV limit.toNat)) ∧ Src w' b (r.numS limit.toNat) ∧ Only b w w' := by
  have h0 : 0 ≤ limit := hl.1
  have H := Lib.hid h
  have HL := Lib.hid hl
  have hlen1 := takeB_len r 1
  clear h hl
  go_enter Try.func117, Try.ntmps117
  go_wp2_with fail
  refine (take_src b r 1 w H.out).mono ?_
  rintro e w1 ⟨rfl, hs1, ho1⟩
  obtain ⟨p, hp⟩ : ∃ p, r.takeS 1 = p := ⟨_, rfl⟩
  obtain ⟨hd, hhd⟩ : ∃ p, r.takeB 1 = p := ⟨_, rfl⟩
  rw [hp] at hs1
  rw [hhd] at hlen1 ⊢
  have HP := Lib.hid hp
  have HB := Lib.hid hhd
  have HS := Lib.hid hs1
  clear hs1 hp hhd
  by_cases hne : hd = []
  · have he : hd.isEmpty = true := by simp [hne]
    have HN := Lib.hid hne
    clear hne hlen1
    go_wp2
    go_ret
    exact ⟨ret_int (by simp [RS.numV, numV1, HB.out, HN.out]), by simpa [RS.numS, numS1, HB.out, HN.out, HP.out] using HS.out, ho1⟩
  · have he : hd.isEmpty = false := by simp [hne]
    have hl0 : 0 < hd.length := List.length_pos_iff.2 hne
    have hix := str_idx hd 0
    have HN := Lib.hid hne
    clear hne hlen1
    obtain ⟨c, hc⟩ : ∃ c, hd.getD 0 0 = c := ⟨_, rfl⟩
    rw [hc] at hix
    have HC := Lib.hid hc
    clear hc
    by_cases hc8 : 8 < c.toNat
    · have hc8' : (8 : Int) < (c.toNat : Int) := by omega
      go_wp2_with (go_at_call 83; refine (wrong_src b p 3 _ HS.out).mono ?_; rintro e w2 ⟨rfl, hs2, ho2⟩)
      go_ret
      exact ⟨ret_int (by rw [RS.numV, numV1, HB.out, if_neg HN.out, HC.out, if_pos hc8]; rfl), by rw [RS.numS, numS1, HB.out, if_neg HN.out, HP.out, HC.out, if_pos hc8]; exact hs2, ho1.trans ho2⟩
    · have hc8' : ¬ (8 : Int) < (c.toNat : Int) := by omega
      go_wp2_with fail
      refine (take_src b p c.toNat _ HS.out).mono ?_
      rintro e w2 ⟨rfl, hs2, ho2⟩
      have hS : r.numS limit.toNat = numS2 (p.takeS c.toNat) (p.takeB c.toNat) limit.toNat := by rw [RS.numS, numS1, HB.out, if_neg HN.out, HP.out, HC.out, if_neg hc8]
      have hV : r.numV limit.toNat = numV2 (p.takeB c.toNat) limit.toNat := by rw [RS.numV, numV1, HB.out, if_neg HN.out, HP.out, HC.out, if_neg hc8]
      have hlen2 : (p.takeB c.toNat).length ≤ 8 := by have := takeB_len p c.toNat; omega
      generalize p.takeS c.toNat = q at *
      generalize p.takeB c.toNat = bs at *
      have HS2 := Lib.hid hs2
      have HQ := Lib.hid hS
      have HV := Lib.hid hV
      clear hs2 hS hV hix
      by_cases hnb : bs = []
      · have heb : bs.isEmpty = true := by simp [hnb]
        have HNB := Lib.hid hnb
        clear hnb hlen2
        go_wp2
        go_ret
        exact ⟨ret_int (by simp [HV.out, numV2, HNB.out]), by simpa [HQ.out, numS2, HNB.out] using HS2.out, ho1.trans ho2⟩
      · have heb : bs.isEmpty = false := by simp [hnb]
        have hlb : 0 < bs.length := List.length_pos_iff.2 hnb
        have HNB := Lib.hid hnb
        clear hnb
        go_wp2_with fail
        go_loop [7, 27] (fun n i => ∃ k : Nat, k ≤ bs.length ∧ i = .int .i64 k ∧ n = .int .u64 (valN (bs.take k))) (fun _ i => bs.length - (intOf i).toNat)
        case atStart => exact ⟨0, Nat.zero_le _, rfl, rfl⟩
        case round =>
          obtain ⟨k, hk, rfl, rfl⟩ := hrel
          by_cases hlt : k < bs.length
          · have hix := str_idx bs k
            have hor := or_byte (valN (bs.take k)) (bs.getD k 0) (valN_small bs k (by omega))
            have hto := valN_take bs k hlt
            obtain ⟨x, hx⟩ : ∃ x, bs.getD k 0 = x := ⟨_, rfl⟩
            rw [hx] at hix hor hto
            have HT := Lib.hid hto
            clear hto hx
            generalize valN (bs.take k) = v at *
            go_wp2
            go_round
            case rel => exact ⟨k + 1, by omega, by go_num, by rw [HT.out]; simp⟩
            case measure => simp [intOf]; omega
          · have hkb : k = bs.length := by omega
            subst hkb
            have hv : valN (bs.take bs.length) = valN bs := by rw [List.take_of_length_le (Nat.le_refl _)]
            rw [hv]
            have hix := str_idx bs 0
            obtain ⟨x, hx⟩ : ∃ x, bs.getD 0 0 = x := ⟨_, rfl⟩
            rw [hx] at hix
            have HX := Lib.hid hx
            obtain ⟨v, hvv⟩ : ∃ v, valN bs = v := ⟨_, rfl⟩
            rw [hvv]
            have HVV := Lib.hid hvv
            clear hx hv hvv
            by_cases hx0 : x = 0
            · have hS3 : r.numS limit.toNat = q.fail 3 := by rw [HQ.out, numS2, if_neg HNB.out, HX.out, HVV.out, if_pos (Or.inl hx0)]
              have hV3 : r.numV limit.toNat = 0 := by rw [HV.out, numV2, if_neg HNB.out, HX.out, HVV.out, if_pos (Or.inl hx0)]
              have HS3 := Lib.hid hS3
              have HV3 := Lib.hid hV3
              have hxb : ((x.toNat : Int) == 0) = true := by simp [hx0]
              clear hS3 hV3 hx0
              go_wp2_with (go_at_call 83; refine (wrong_src b q 3 _ HS2.out).mono ?_; rintro e w3 ⟨rfl, hs3, ho3⟩)
              go_ret
              exact ⟨ret_int (by rw [HV3.out]; rfl), by rw [HS3.out]; exact hs3, (ho1.trans ho2).trans ho3⟩
            · have hxb : ((x.toNat : Int) == 0) = false := by
                have : x.toNat ≠ 0 := fun h => hx0 (by apply UInt8.toNat.inj; simpa using h)
                simp; omega
              by_cases hlv : limit < (v : Int)
              · have hbad : x = 0 ∨ limit.toNat < v := Or.inr (by omega)
                have hS3 : r.numS limit.toNat = q.fail 3 := by rw [HQ.out, numS2, if_neg HNB.out, HX.out, HVV.out, if_pos hbad]
                have hV3 : r.numV limit.toNat = 0 := by rw [HV.out, numV2, if_neg HNB.out, HX.out, HVV.out, if_pos hbad]
                have HS3 := Lib.hid hS3
                have HV3 := Lib.hid hV3
                clear hS3 hV3 hx0 hbad
                go_wp2_with (go_at_call 83; refine (wrong_src b q 3 _ HS2.out).mono ?_; rintro e w3 ⟨rfl, hs3, ho3⟩)
                go_ret
                exact ⟨ret_int (by rw [HV3.out]; rfl), by rw [HS3.out]; exact hs3, (ho1.trans ho2).trans ho3⟩
              · have hgood : ¬ (x = 0 ∨ limit.toNat < v) := fun h => h.elim hx0 (by omega)
                have hS3 : r.numS limit.toNat = q := by rw [HQ.out, numS2, if_neg HNB.out, HX.out, HVV.out, if_neg hgood]
                have hV3 : r.numV limit.toNat = v := by rw [HV.out, numV2, if_neg HNB.out, HX.out, HVV.out, if_neg hgood]
                have HS3 := Lib.hid hS3
                have HV3 := Lib.hid hV3
                clear hS3 hV3 hx0 hgood
                go_wp2
                go_ret
                exact ⟨ret_int (by rw [HV3.out]), by rw [HS3.out]; exact HS2.out, ho1.trans ho2⟩
theorem numV_le (r : RS) (limit : Nat) : r.numV limit ≤ limit := by
  unfold RS.numV numV1 numV2
  repeat' split
  all_goals omega
theorem numS_err (r : RS) (limit : Nat) (h : r.e ≠ 0) : r.numS limit = r := by
  simp [RS.numS, numS1, RS.takeB, RS.takeS, h]
theorem numV_err (r : RS) (limit : Nat) (h : r.e ≠ 0) : r.numV limit = 0 := by
  simp [RS.numV, numV1, RS.takeB, h]
end Go.Proofs.Ytlhjgpedmnjbpaa
/-
  The contracts of a source's Int, Text, Word, Bool, End, also of no source.
-/

namespace Go.Proofs.Ytlhjgpedmnjbpaa
open Go.RowKit
set_option linter.unusedVariables false

theorem int_nil (n : Int) (w : World) (h : n ≤ 9223372036854775807) : Calls Try.prog 80 #[.pointer none, .int .i64 n] w fun e w' => e = .returned (.int .i64 0) ∧ w = w' := by
  have hwr : IntKind.u64.wrap (max n 0) = max n 0 := wrap_u64_in _ ⟨by omega, by omega⟩
  go_enter Try.func80, Try.ntmps80
  go_wp2_with (go_at_call 117; refine (num_nil _ _).mono ?_; rintro e w' ⟨rfl, rfl⟩)
  go_ret
  exact ⟨rfl, rfl⟩
theorem int_src (b : Nat) (r : RS) (n : Int) (w : World) (hn : n ≤ 9223372036854775807) (h : Src w b r) :
    Calls Try.prog 80 #[.pointer (some ⟨b, 0, none⟩), .int .i64 n] w fun e w' => e = .returned (.int .i64 (r.numV n.toNat)) ∧ Src w' b (r.numS n.toNat) ∧ Only b w w' := by
  have hu : U64 (max n 0) := ⟨by omega, by omega⟩
  have hwr : IntKind.u64.wrap (max n 0) = max n 0 := wrap_u64_in _ hu
  have hle := numV_le r n.toNat
  have HM := Lib.hid (show (max n 0).toNat = n.toNat by omega)
  have H := Lib.hid h
  have HU := Lib.hid hu
  clear h hu
  go_enter Try.func80, Try.ntmps80
  go_wp2_with (go_at_call 117; refine (num_src b r _ _ HU.out H.out).mono ?_; rw [HM.out]; rintro e w' ⟨rfl, hs, ho⟩)
  all_goals go_ret
  all_goals exact ⟨rfl, hs, ho⟩

/-- Text(limit) -/
def RS.textS (r : RS) (limit : Int) : RS := (r.numS (min limit 65536).toNat).takeS (r.numV (min limit 65536).toNat)
def RS.textB (r : RS) (limit : Int) : List UInt8 := (r.numS (min limit 65536).toNat).takeB (r.numV (min limit 65536).toNat)
theorem end_nil (w : World) : Calls Try.prog 93 #[.pointer none] w fun e w' => e = .returned (.int .i64 2) ∧ w = w' := by
  go_enter Try.func93, Try.ntmps93
  go_wp2_with (first | (go_at_call 31; refine (left_nil _).mono ?_; rintro e w' ⟨rfl, rfl⟩) | (go_at_call 18; refine (err_nil _).mono ?_; rintro e w' ⟨rfl, rfl⟩))
  go_ret
  exact ⟨rfl, rfl⟩
def RS.endS (r : RS) : RS := if r.s = [] then r else r.fail 3
theorem end_src (b : Nat) (r : RS) (w : World) (h : Src w b r) :
    Calls Try.prog 93 #[.pointer (some ⟨b, 0, none⟩)] w fun e w' => e = .returned (.int .i64 r.endS.e) ∧ Src w' b r.endS ∧ Only b w w' := by
  have H := Lib.hid h
  have h0 := h.c0
  have h1 := h.c1
  clear h
  by_cases hl : r.s = []
  · have hz : r.s.length = 0 := by simp [hl]
    have HL := Lib.hid hl
    have hq : ¬ (0 < r.s.length) := by omega
    clear hl hz
    go_enter Try.func93, Try.ntmps93
    go_wp2_with (first | (go_at_call 31; refine (left_some _ _ _ h0).mono ?_; rintro e w' ⟨rfl, rfl⟩) | (go_at_call 18; refine (err_some _ _ _ h1).mono ?_; rintro e w' ⟨rfl, rfl⟩))
    go_ret
    exact ⟨ret_int (by rw [RS.endS, if_pos HL.out]), by rw [RS.endS, if_pos HL.out]; exact H.out, Only.refl _ _⟩
  · have hq : 0 < r.s.length := List.length_pos_iff.2 hl
    have HL := Lib.hid hl
    clear hl
    go_enter Try.func93, Try.ntmps93
    go_wp2_with (go_at_call 31; refine (left_some _ _ _ h0).mono ?_; rintro e w' ⟨rfl, rfl⟩)
    refine (wrong_src b r 3 _ H.out).mono ?_
    rintro e w1 ⟨rfl, hs, ho⟩
    have h2 := hs.c1
    have HS := Lib.hid hs
    clear hs
    go_wp2_with (go_at_call 18; refine (err_some _ _ _ h2).mono ?_; rintro e w' ⟨rfl, rfl⟩)
    go_ret
    exact ⟨ret_int (by rw [RS.endS, if_neg HL.out]), by rw [RS.endS, if_neg HL.out]; exact HS.out, ho⟩
/-- Word() -/
def RS.wordV (r : RS) : Nat := valN (r.takeB 4)
end Go.Proofs.Ytlhjgpedmnjbpaa
/-
  The contracts of a source's Word and List.
-/

namespace Go.Proofs.Ytlhjgpedmnjbpaa
open Go.RowKit
set_option linter.unusedVariables false

def word4 (a b c d : UInt8) : Int := ((valN [a, b, c, d] : Nat) : Int)
theorem word_or (x y z u : UInt8) : bits .or .u32 (bits .or .u32 (bits .or .u32 ((x.toNat : Int) % 4294967296 * 16777216 % 4294967296) ((y.toNat : Int) % 4294967296 * 65536 % 4294967296)) ((z.toNat : Int) % 4294967296 * 256 % 4294967296)) ((u.toNat : Int) % 4294967296) = ((valN [x, y, z, u] : Nat) : Int) := by
  have hx := x.toNat_lt
  have hy := y.toNat_lt
  have hz := z.toNat_lt
  have hu := u.toNat_lt
  rw [show ((x.toNat : Int) % 4294967296 * 16777216 % 4294967296) = ((2 ^ 24 * x.toNat : Nat) : Int) by omega, show ((y.toNat : Int) % 4294967296 * 65536 % 4294967296) = ((65536 * y.toNat : Nat) : Int) by omega,
    show ((z.toNat : Int) % 4294967296 * 256 % 4294967296) = ((256 * z.toNat : Nat) : Int) by omega, show ((u.toNat : Int) % 4294967296) = ((u.toNat : Nat) : Int) by omega]
  rw [u32_or_nat _ _ (by omega) (by omega), ← Nat.two_pow_add_eq_or_of_lt (i := 24) (b := 65536 * y.toNat) (by omega) x.toNat]
  rw [show 2 ^ 24 * x.toNat + 65536 * y.toNat = 2 ^ 16 * (256 * x.toNat + y.toNat) by omega, u32_or_nat _ _ (by omega) (by omega), ← Nat.two_pow_add_eq_or_of_lt (i := 16) (b := 256 * z.toNat) (by omega) _]
  rw [show 2 ^ 16 * (256 * x.toNat + y.toNat) + 256 * z.toNat = 2 ^ 8 * (256 * (256 * x.toNat + y.toNat) + z.toNat) by omega, u32_or_nat _ _ (by omega) (by omega), ← Nat.two_pow_add_eq_or_of_lt (i := 8) (b := u.toNat) (by omega) _]
  simp [valN]
  omega
/-- so many Ints, up to the first error -/
def intsR (q : RS) (limit : Nat) : Nat → RS × List Int
  | 0 => (q, [])
  | k + 1 => if (intsR q limit k).1.e ≠ 0 then intsR q limit k else ((intsR q limit k).1.numS limit, (intsR q limit k).2 ++ [((intsR q limit k).1.numV limit : Int)])
def RS.listS (r : RS) (many limit : Int) : RS := (intsR (r.numS many.toNat) limit.toNat (r.numV many.toNat)).1
def RS.listV (r : RS) (many limit : Int) : List Int := if (r.listS many limit).e ≠ 0 then [] else (intsR (r.numS many.toNat) limit.toNat (r.numV many.toNat)).2
theorem intsR_len (q : RS) (limit k : Nat) : (intsR q limit k).2.length ≤ k := by
  induction k with
  | zero => simp [intsR]
  | succ k ih =>
    rw [intsR]
    split
    · omega
    · simp; omega
theorem intsR_stop (q : RS) (limit k n : Nat) (h : (intsR q limit k).1.e ≠ 0) (hk : k ≤ n) : intsR q limit n = intsR q limit k := by
  induction n with
  | zero => obtain rfl : k = 0 := by omega
            rfl
  | succ n ih =>
    by_cases e : k = n + 1
    · subst e; rfl
    · rw [intsR, ih (by omega), if_pos h]
theorem slist_nil (n m : Int) (w : World) (h : n ≤ 9223372036854775807) : Calls Try.prog 88 #[.pointer none, .int .i64 n, .int .i64 m] w fun e w' => e = .returned (.slice none 0 0) ∧ w = w' := by
  go_enter Try.func88, Try.ntmps88
  go_wp2_with (go_at_call 80; refine (int_nil _ _ h).mono ?_; rintro e w' ⟨rfl, rfl⟩)
  refine wp_loop_rounds 1 ?_
  rw [rounds_succ]
  go_wp2_with (go_at_call 18; refine (err_nil _).mono ?_; rintro e w' ⟨rfl, rfl⟩)
  go_ret
  exact ⟨rfl, rfl⟩
theorem info_int : (Try.prog.info? 3).map (fun i => (i.zero, i.size, i.bytes)) = some (some (.int .i64 0), 1, 8) := by kernel_rfl
def iCells (l : List Int) : List Value := l.map (Value.int .i64)
def ListPost (b : Nat) (r : RS) (many limit : Int) (w : World) (e : Ending) (w' : World) : Prop :=
  ∃ v, e = .returned v ∧ w'.ownsRow w.heap.size 3 1 v (r.listV many limit).length (iCells (r.listV many limit)) ∧ Src w' b (r.listS many limit) ∧ Only b w w'
set_option maxHeartbeats 1600000 in
set_option maxRecDepth 100000 in
theorem slist_src (b : Nat) (r : RS) (many limit : Int) (w : World) (hn : many ≤ 1000000) (hl : limit ≤ 9223372036854775807) (h : Src w b r) :
    Calls Try.prog 88 #[.pointer (some ⟨b, 0, none⟩), .int .i64 many, .int .i64 limit] w (ListPost b r many limit w) := by
  obtain ⟨i0, hi, hz0, hz1, hz2⟩ := info_parts info_int
  have H := Lib.hid h
  have hb := h.lt
  have hnv := numV_le r many.toNat
  clear h
  go_enter Try.func88, Try.ntmps88
  go_wp2_with fail
  refine (int_src b r _ _ (by omega) H.out).mono ?_
  rintro e w1 ⟨rfl, hs, ho⟩
  obtain ⟨q, hq⟩ : ∃ p, r.numS many.toNat = p := ⟨_, rfl⟩
  obtain ⟨m, hm⟩ : ∃ p, r.numV many.toNat = p := ⟨_, rfl⟩
  rw [hq] at hs
  rw [hm] at hnv ⊢
  have HQ := Lib.hid hq
  have HM := Lib.hid hm
  have HS := Lib.hid hs
  have hsz := ho.size
  have HO := Lib.hid ho
  clear hq hm hs ho
  go_wp2_with fail
  go_loopw [8, 9] (fun v i wr => ∃ k : Nat, k ≤ m ∧ i = .int .i64 k ∧ wr.ownsRow w.heap.size 3 1 v (intsR q limit.toNat k).2.length (iCells (intsR q limit.toNat k).2) ∧ Src wr b (intsR q limit.toNat k).1 ∧ Only b w wr) (fun _ i _ => m - (intOf i).toNat)
  case atStart => exact ⟨0, Nat.zero_le _, rfl, World.ownsRow_nil _ _ _ _, HS.out, HO.out⟩
  case round =>
    obtain ⟨k, hk, rfl, hown, hsr, hor⟩ := hrel
    obtain ⟨p, hp⟩ : ∃ p, (intsR q limit.toNat k).1 = p := ⟨_, rfl⟩
    obtain ⟨l, hll⟩ : ∃ p, (intsR q limit.toNat k).2 = p := ⟨_, rfl⟩
    have hlk := intsR_len q limit.toNat k
    rw [hp] at hsr
    rw [hll] at hown hlk
    have HP := Lib.hid hp
    have HLL := Lib.hid hll
    have h1 := hsr.c1
    have HSR := Lib.hid hsr
    have hszr := hor.size
    clear hp hll hsr
    by_cases hlt : k < m
    · have hlt' : (k : Int) < (m : Int) := by omega
      by_cases he : p.e = 0
      · have hS : (intsR q limit.toNat (k + 1)).1 = p.numS limit.toNat := by rw [intsR, HP.out, if_neg (by simpa using he)]
        have hL : (intsR q limit.toNat (k + 1)).2 = l ++ [(p.numV limit.toNat : Int)] := by rw [intsR, HP.out, if_neg (by simpa using he), HLL.out]
        rw [he] at h1
        have HS1 := Lib.hid hS
        have HL1 := Lib.hid hL
        clear he hS hL
        go_wp2_with (go_at_call 18; refine (err_some _ _ _ h1).mono ?_; rintro e w' ⟨rfl, rfl⟩)
        refine (int_src b p limit _ hl HSR.out).mono ?_
        rintro e w3 ⟨rfl, hs3, ho3⟩
        have hown3 := owns_kept hown ho3 hb
        have HS3 := Lib.hid hs3
        have hsz3 := ho3.size
        have HO3 := Lib.hid ho3
        clear hs3 ho3 hown
        go_wp2_with (at_builtin; refine wpList_append_own _ rfl (.tmp 23) (.tmp 27) 22 rfl w.heap.size 3 i0 (.int .i64 0) 1 8 Try.underlying22 hi hz0 hz1 hz2 rfl (by decide) _ _ _ rfl (hown3.alloc _) ⟨w3.heap.size, 0, none⟩ 1 1 [.int .i64 (p.numV limit.toNat)] rfl rfl ?c1 ?c2 ?c3 ?c4 ?c5 ?_)
        case c1 => exact (cell_one_new _ _ _)
        case c2 => intro u hu; simp at hu; subst hu; rfl
        case c3 => unfold maxLen; omega
        case c4 => omega
        case c5 => simp; omega
        intro v' w4 hown4 hgr _
        have HG := Lib.hid hgr
        have HW4 := Lib.hid hown4
        clear hgr hown4
        go_wp2
        go_roundw
        case rel =>
          refine ⟨k + 1, by omega, by go_num, ?_, ?_, ?_⟩
          · rw [HL1.out]
            have := HW4.out
            simpa [iCells] using this
          · rw [HS1.out]
            have hsb := HS3.out
            unfold Src at hsb ⊢
            rw [HG.out.block b (by simp; omega) (fun e => by have := (hown3.lt b e.symm).1; omega), Below.heap_alloc _ _ _ (by omega)]
            exact hsb
          · exact ((hor.trans HO3.out).alloc _).grown HG.out (fun z hz => (hown3.lt z hz).1)
        case measure => simp [intOf]; omega
      · have heb : (p.e != 0) = true := by simpa using he
        have heb' : (p.e == 0) = false := by simpa using he
        have hst : intsR q limit.toNat m = intsR q limit.toNat k := intsR_stop q limit.toNat k m (by rw [HP.out]; exact he) (by omega)
        have hlS : r.listS many limit = p := by rw [RS.listS, HQ.out, HM.out, hst, HP.out]
        have hlV : r.listV many limit = [] := by rw [RS.listV, hlS, if_pos he]
        have HA := Lib.hid hlS
        have HB := Lib.hid hlV
        clear he hst hlS hlV
        go_wp2_with (go_at_call 18; refine (err_some _ _ _ h1).mono ?_; rintro e w' ⟨rfl, rfl⟩)
        go_ret
        exact ⟨_, rfl, by rw [HB.out]; exact World.ownsRow_nil _ _ _ _, by rw [HA.out]; exact HSR.out, hor⟩
    · have hkm : k = m := by omega
      subst hkm
      have hlS : r.listS many limit = p := by rw [RS.listS, HQ.out, HM.out, HP.out]
      have HA := Lib.hid hlS
      clear hlS
      by_cases he : p.e = 0
      · have hlV : r.listV many limit = l := by rw [RS.listV, HA.out, if_neg (by simpa using he), HQ.out, HM.out, HLL.out]
        have HB := Lib.hid hlV
        rw [he] at h1
        clear he hlV
        go_wp2_with (go_at_call 18; refine (err_some _ _ _ h1).mono ?_; rintro e w' ⟨rfl, rfl⟩)
        go_ret
        exact ⟨_, rfl, by rw [HB.out]; exact hown, by rw [HA.out]; exact HSR.out, hor⟩
      · have heb : (p.e != 0) = true := by simpa using he
        have hlV : r.listV many limit = [] := by rw [RS.listV, HA.out, if_pos he]
        have HB := Lib.hid hlV
        clear he hlV
        go_wp2_with (go_at_call 18; refine (err_some _ _ _ h1).mono ?_; rintro e w' ⟨rfl, rfl⟩)
        go_ret
        exact ⟨_, rfl, by rw [HB.out]; exact World.ownsRow_nil _ _ _ _, by rw [HA.out]; exact HSR.out, hor⟩
end Go.Proofs.Ytlhjgpedmnjbpaa
