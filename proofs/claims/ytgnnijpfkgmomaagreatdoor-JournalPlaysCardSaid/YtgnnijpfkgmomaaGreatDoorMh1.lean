/-
  Several texts, laid together.
-/
import Derived.Test.YtgnnijpfkgmomaaGreatDoorNumC
import Derived.Test.YtgnnijpfkgmomaaGreatDoorBytes
/-
  The contracts of the document's own Put, Word, Text, Bool and List, and of num's List.
-/


namespace Go.Proofs.YtgnnijpfkgmomaaGreatDoor
open Go.RowKit
set_option linter.unusedVariables false

theorem needN4 (n : Nat) (h : n ≤ 4294967295) : needN n ≤ 4 := by
  have := Lib.bitLen_le n 32 (by omega) (by omega)
  unfold needN; omega
theorem beN_zero_lead (k m n : Nat) (hk : k ≤ m) (h : n < 256 ^ k) : beN m n = List.replicate (m - k) 0 ++ beN k n := by
  induction m with
  | zero =>
    obtain rfl : k = 0 := by omega
    rfl
  | succ m ih =>
    by_cases e : k = m + 1
    · subst e; simp
    · rw [beN, ih (by omega), show m + 1 - k = (m - k) + 1 by omega, List.replicate_succ]
      have : n / 256 ^ m = 0 := Nat.div_eq_of_lt (Nat.lt_of_lt_of_le h (Nat.pow_le_pow_right (by omega) (by omega)))
      rw [this]; rfl
/-- a slice of ints that reads so: nil, or a row of cells -/
def Ints (w : World) (v : Value) (zs : List Int) : Prop :=
  ∃ a cap, v = .slice a zs.length cap ∧ zs.length ≤ 9223372036854775807 ∧ (zs = [] ∨ ∃ b off, a = some ⟨b, off, none⟩ ∧ b < w.heap.size ∧ ∀ j, j < zs.length → w.cell? ⟨b, off + j, none⟩ = some (.int .i64 (zs.getD j 0)))
def listN (l : List Int) : List UInt8 := putN l.length ++ l.flatMap fun x => putN x.toNat
theorem listN_snoc (n : Nat) (l : List Int) (k : Nat) (h : k < l.length) : putN n ++ ((l.take k).flatMap fun x => putN x.toNat) ++ putN (l.getD k 0).toNat = putN n ++ (l.take (k + 1)).flatMap fun x => putN x.toNat := by
  rw [List.take_succ_eq_append_getElem h, List.flatMap_append]
  simp [List.getD, h]
theorem flat_len (l : List Int) (hl : ∀ x ∈ l, x ≤ 9223372036854775807) : (l.flatMap fun x => putN x.toNat).length ≤ 9 * l.length := by
  induction l with
  | nil => simp
  | cons x l ih =>
    have := putN_length x.toNat (by have := hl x (by simp); omega)
    have := ih (fun y hy => hl y (by simp [hy]))
    simp at *; omega
end Go.Proofs.YtgnnijpfkgmomaaGreatDoor
/-
  The contract of the document's own List.
-/

namespace Go.Proofs.YtgnnijpfkgmomaaGreatDoor
open Go.RowKit
set_option linter.unusedVariables false

end Go.Proofs.YtgnnijpfkgmomaaGreatDoor
/-
  The contract of a source's Num.
-/

namespace Go.Proofs.YtgnnijpfkgmomaaGreatDoor
open Go.RowKit
set_option linter.unusedVariables false

def numS2 (q : RS) (b : List UInt8) (limit : Nat) : RS := if b = [] then q else if b.getD 0 0 = 0 ∨ limit < valN b then q.fail 3 else q
def numV2 (b : List UInt8) (limit : Nat) : Nat := if b = [] then 0 else if b.getD 0 0 = 0 ∨ limit < valN b then 0 else valN b
def numS1 (p : RS) (h : List UInt8) (limit : Nat) : RS := if h = [] then p else if 8 < (h.getD 0 0).toNat then p.fail 3 else numS2 (p.takeS (h.getD 0 0).toNat) (p.takeB (h.getD 0 0).toNat) limit
def numV1 (p : RS) (h : List UInt8) (limit : Nat) : Nat := if h = [] then 0 else if 8 < (h.getD 0 0).toNat then 0 else numV2 (p.takeB (h.getD 0 0).toNat) limit
def RS.numS (r : RS) (limit : Nat) : RS := numS1 (r.takeS 1) (r.takeB 1) limit
def RS.numV (r : RS) (limit : Nat) : Nat := numV1 (r.takeS 1) (r.takeB 1) limit
theorem str_idx (l : List UInt8) (k : Nat) (h : k < (⟨l.toArray⟩ : ByteArray).size) : (⟨l.toArray⟩ : ByteArray)[k] = l.getD k 0 := by
  have hk : k < l.length := by simpa [ByteArray.size] using h
  show l.toArray[k] = _
  simp [List.getD, hk]

theorem or_byte (x : Nat) (c : UInt8) (h : x < 72057594037927936) : bits .or .u64 (IntKind.u64.wrap ((x : Int) * 256)) (IntKind.u64.wrap (c.toNat : Int)) = ((x * 256 + c.toNat : Nat) : Int) := by
  have hc := c.toNat_lt
  rw [wrap_u64_in _ ⟨by omega, by omega⟩, wrap_u64_in _ ⟨by omega, by omega⟩, show ((x : Int) * 256) = ((x * 256 : Nat) : Int) by simp, u64_or_nat _ _ (by omega) (by omega)]
  have := Nat.two_pow_add_eq_or_of_lt (i := 8) (b := c.toNat) (by omega) x
  rw [Nat.mul_comm x 256]
  exact congrArg _ this.symm
theorem valN_take (l : List UInt8) (k : Nat) (h : k < l.length) : valN (l.take (k + 1)) = valN (l.take k) * 256 + (l.getD k 0).toNat := by
  rw [List.take_succ_eq_append_getElem h, valN_snoc]
  simp [List.getD, h]
theorem valN_small (l : List UInt8) (k : Nat) (h : k ≤ 7) : valN (l.take k) < 72057594037927936 := by
  have h1 := valN_lt (l.take k)
  have h2 : (l.take k).length ≤ 7 := Nat.le_trans (List.length_take_le _ _) h
  exact Nat.lt_of_lt_of_le h1 (Nat.le_trans (Nat.pow_le_pow_right (by omega) h2) (by decide))

theorem takeB_len (r : RS) (n : Int) : (r.takeB n).length ≤ n.toNat := by
  unfold RS.takeB
  split
  · simp
  · split
    · simp
    · exact List.length_take_le _ _

theorem num_nil (n : Int) (w : World) : Calls Tryz.prog 50 #[.pointer none, .int .u64 n] w fun e w' => e = .returned (.int .u64 0) ∧ w = w' := by
  go_enter Tryz.func50, Tryz.ntmps50
  go_wp2_with (go_at_call 30; refine (take_nil _ _).mono ?_; rintro e w' ⟨rfl, rfl⟩)
  go_ret
  exact ⟨rfl, rfl⟩

set_option maxHeartbeats 800000 in
set_option maxRecDepth 100000 in
theorem num_src (b : Nat) (r : RS) (limit : Int) (w : World) (hl : U64 limit) (h : Src w b r) :
    Calls Tryz.prog 50 #[.pointer (some ⟨b, 0, none⟩), .int .u64 limit] w fun e w' => e = .returned (.int .u64 (r.numV limit.toNat)) ∧ Src w' b (r.numS limit.toNat) ∧ Only b w w' := by
  have h0 : 0 ≤ limit := hl.1
  have H := Lib.hid h
  have HL := Lib.hid hl
  have hlen1 := takeB_len r 1
  clear h hl
  go_enter Tryz.func50, Tryz.ntmps50
  go_wp2_with fail
  refine (take_src b r 1 w H.out).mono ?_
  rintro e w1 ⟨rfl, hs1, ho1⟩
  obtain ⟨p, hp⟩ : ∃ p, r.takeS 1 = p := ⟨_, rfl⟩
  obtain ⟨hd, hhd⟩ : ∃ p, r.takeB 1 = p := ⟨_, rfl⟩
  rw [hp] at hs1
  rw [hhd] at hlen1 ⊢
  have HP := Lib.hid hp
  have HB := Lib.hid hhd
  have HS := Lib.hid hs1
  clear hs1 hp hhd
  by_cases hne : hd = []
  · have he : hd.isEmpty = true := by simp [hne]
    have HN := Lib.hid hne
    clear hne hlen1
    go_wp2
    go_ret
    exact ⟨ret_int (by simp [RS.numV, numV1, HB.out, HN.out]), by simpa [RS.numS, numS1, HB.out, HN.out, HP.out] using HS.out, ho1⟩
  · have he : hd.isEmpty = false := by simp [hne]
    have hl0 : 0 < hd.length := List.length_pos_iff.2 hne
    have hix := str_idx hd 0
    have HN := Lib.hid hne
    clear hne hlen1
    obtain ⟨c, hc⟩ : ∃ c, hd.getD 0 0 = c := ⟨_, rfl⟩
    rw [hc] at hix
    have HC := Lib.hid hc
    clear hc
    by_cases hc8 : 8 < c.toNat
    · have hc8' : (8 : Int) < (c.toNat : Int) := by omega
      go_wp2_with (go_at_call 52; refine (wrong_src b p 3 _ HS.out).mono ?_; rintro e w2 ⟨rfl, hs2, ho2⟩)
      go_ret
      exact ⟨ret_int (by rw [RS.numV, numV1, HB.out, if_neg HN.out, HC.out, if_pos hc8]; rfl), by rw [RS.numS, numS1, HB.out, if_neg HN.out, HP.out, HC.out, if_pos hc8]; exact hs2, ho1.trans ho2⟩
    · have hc8' : ¬ (8 : Int) < (c.toNat : Int) := by omega
      go_wp2_with fail
      refine (take_src b p c.toNat _ HS.out).mono ?_
      rintro e w2 ⟨rfl, hs2, ho2⟩
      have hS : r.numS limit.toNat = numS2 (p.takeS c.toNat) (p.takeB c.toNat) limit.toNat := by rw [RS.numS, numS1, HB.out, if_neg HN.out, HP.out, HC.out, if_neg hc8]
      have hV : r.numV limit.toNat = numV2 (p.takeB c.toNat) limit.toNat := by rw [RS.numV, numV1, HB.out, if_neg HN.out, HP.out, HC.out, if_neg hc8]
      have hlen2 : (p.takeB c.toNat).length ≤ 8 := by have := takeB_len p c.toNat; omega
      generalize p.takeS c.toNat = q at *
      generalize p.takeB c.toNat = bs at *
      have HS2 := Lib.hid hs2
      have HQ := Lib.hid hS
      have HV := Lib.hid hV
      clear hs2 hS hV hix
      by_cases hnb : bs = []
      · have heb : bs.isEmpty = true := by simp [hnb]
        have HNB := Lib.hid hnb
        clear hnb hlen2
        go_wp2
        go_ret
        exact ⟨ret_int (by simp [HV.out, numV2, HNB.out]), by simpa [HQ.out, numS2, HNB.out] using HS2.out, ho1.trans ho2⟩
      · have heb : bs.isEmpty = false := by simp [hnb]
        have hlb : 0 < bs.length := List.length_pos_iff.2 hnb
        have HNB := Lib.hid hnb
        clear hnb
        go_wp2_with fail
        go_loop [7, 27] (fun n i => ∃ k : Nat, k ≤ bs.length ∧ i = .int .i64 k ∧ n = .int .u64 (valN (bs.take k))) (fun _ i => bs.length - (intOf i).toNat)
        case atStart => exact ⟨0, Nat.zero_le _, rfl, rfl⟩
        case round =>
          obtain ⟨k, hk, rfl, rfl⟩ := hrel
          by_cases hlt : k < bs.length
          · have hix := str_idx bs k
            have hor := or_byte (valN (bs.take k)) (bs.getD k 0) (valN_small bs k (by omega))
            have hto := valN_take bs k hlt
            obtain ⟨x, hx⟩ : ∃ x, bs.getD k 0 = x := ⟨_, rfl⟩
            rw [hx] at hix hor hto
            have HT := Lib.hid hto
            clear hto hx
            generalize valN (bs.take k) = v at *
            go_wp2
            go_round
            case rel => exact ⟨k + 1, by omega, by go_num, by rw [HT.out]; simp⟩
            case measure => simp [intOf]; omega
          · have hkb : k = bs.length := by omega
            subst hkb
            have hv : valN (bs.take bs.length) = valN bs := by rw [List.take_of_length_le (Nat.le_refl _)]
            rw [hv]
            have hix := str_idx bs 0
            obtain ⟨x, hx⟩ : ∃ x, bs.getD 0 0 = x := ⟨_, rfl⟩
            rw [hx] at hix
            have HX := Lib.hid hx
            obtain ⟨v, hvv⟩ : ∃ v, valN bs = v := ⟨_, rfl⟩
            rw [hvv]
            have HVV := Lib.hid hvv
            clear hx hv hvv
            by_cases hx0 : x = 0
            · have hS3 : r.numS limit.toNat = q.fail 3 := by rw [HQ.out, numS2, if_neg HNB.out, HX.out, HVV.out, if_pos (Or.inl hx0)]
              have hV3 : r.numV limit.toNat = 0 := by rw [HV.out, numV2, if_neg HNB.out, HX.out, HVV.out, if_pos (Or.inl hx0)]
              have HS3 := Lib.hid hS3
              have HV3 := Lib.hid hV3
              have hxb : ((x.toNat : Int) == 0) = true := by simp [hx0]
              clear hS3 hV3 hx0
              go_wp2_with (go_at_call 52; refine (wrong_src b q 3 _ HS2.out).mono ?_; rintro e w3 ⟨rfl, hs3, ho3⟩)
              go_ret
              exact ⟨ret_int (by rw [HV3.out]; rfl), by rw [HS3.out]; exact hs3, (ho1.trans ho2).trans ho3⟩
            · have hxb : ((x.toNat : Int) == 0) = false := by
                have : x.toNat ≠ 0 := fun h => hx0 (by apply UInt8.toNat.inj; simpa using h)
                simp; omega
              by_cases hlv : limit < (v : Int)
              · have hbad : x = 0 ∨ limit.toNat < v := Or.inr (by omega)
                have hS3 : r.numS limit.toNat = q.fail 3 := by rw [HQ.out, numS2, if_neg HNB.out, HX.out, HVV.out, if_pos hbad]
                have hV3 : r.numV limit.toNat = 0 := by rw [HV.out, numV2, if_neg HNB.out, HX.out, HVV.out, if_pos hbad]
                have HS3 := Lib.hid hS3
                have HV3 := Lib.hid hV3
                clear hS3 hV3 hx0 hbad
                go_wp2_with (go_at_call 52; refine (wrong_src b q 3 _ HS2.out).mono ?_; rintro e w3 ⟨rfl, hs3, ho3⟩)
                go_ret
                exact ⟨ret_int (by rw [HV3.out]; rfl), by rw [HS3.out]; exact hs3, (ho1.trans ho2).trans ho3⟩
              · have hgood : ¬ (x = 0 ∨ limit.toNat < v) := fun h => h.elim hx0 (by omega)
                have hS3 : r.numS limit.toNat = q := by rw [HQ.out, numS2, if_neg HNB.out, HX.out, HVV.out, if_neg hgood]
                have hV3 : r.numV limit.toNat = v := by rw [HV.out, numV2, if_neg HNB.out, HX.out, HVV.out, if_neg hgood]
                have HS3 := Lib.hid hS3
                have HV3 := Lib.hid hV3
                clear hS3 hV3 hx0 hgood
                go_wp2
                go_ret
                exact ⟨ret_int (by rw [HV3.out]), by rw [HS3.out]; exact HS2.out, ho1.trans ho2⟩
theorem numV_le (r : RS) (limit : Nat) : r.numV limit ≤ limit := by
  unfold RS.numV numV1 numV2
  repeat' split
  all_goals omega
theorem numS_err (r : RS) (limit : Nat) (h : r.e ≠ 0) : r.numS limit = r := by
  simp [RS.numS, numS1, RS.takeB, RS.takeS, h]
theorem numV_err (r : RS) (limit : Nat) (h : r.e ≠ 0) : r.numV limit = 0 := by
  simp [RS.numV, numV1, RS.takeB, h]
end Go.Proofs.YtgnnijpfkgmomaaGreatDoor
/-
  The contracts of a source's Int, Text, Word, Bool, End, also of no source.
-/

namespace Go.Proofs.YtgnnijpfkgmomaaGreatDoor
open Go.RowKit
set_option linter.unusedVariables false

theorem int_nil (n : Int) (w : World) (h : n ≤ 9223372036854775807) : Calls Tryz.prog 27 #[.pointer none, .int .i64 n] w fun e w' => e = .returned (.int .i64 0) ∧ w = w' := by
  have hwr : IntKind.u64.wrap (max n 0) = max n 0 := wrap_u64_in _ ⟨by omega, by omega⟩
  go_enter Tryz.func27, Tryz.ntmps27
  go_wp2_with (go_at_call 50; refine (num_nil _ _).mono ?_; rintro e w' ⟨rfl, rfl⟩)
  go_ret
  exact ⟨rfl, rfl⟩
theorem int_src (b : Nat) (r : RS) (n : Int) (w : World) (hn : n ≤ 9223372036854775807) (h : Src w b r) :
    Calls Tryz.prog 27 #[.pointer (some ⟨b, 0, none⟩), .int .i64 n] w fun e w' => e = .returned (.int .i64 (r.numV n.toNat)) ∧ Src w' b (r.numS n.toNat) ∧ Only b w w' := by
  have hu : U64 (max n 0) := ⟨by omega, by omega⟩
  have hwr : IntKind.u64.wrap (max n 0) = max n 0 := wrap_u64_in _ hu
  have hle := numV_le r n.toNat
  have HM := Lib.hid (show (max n 0).toNat = n.toNat by omega)
  have H := Lib.hid h
  have HU := Lib.hid hu
  clear h hu
  go_enter Tryz.func27, Tryz.ntmps27
  go_wp2_with (go_at_call 50; refine (num_src b r _ _ HU.out H.out).mono ?_; rw [HM.out]; rintro e w' ⟨rfl, hs, ho⟩)
  all_goals go_ret
  all_goals exact ⟨rfl, hs, ho⟩

/-- Text(limit) -/
def RS.textS (r : RS) (limit : Int) : RS := (r.numS (min limit 65536).toNat).takeS (r.numV (min limit 65536).toNat)
def RS.textB (r : RS) (limit : Int) : List UInt8 := (r.numS (min limit 65536).toNat).takeB (r.numV (min limit 65536).toNat)
theorem text_nil (n : Int) (w : World) : Calls Tryz.prog 62 #[.pointer none, .int .i64 n] w fun e w' => e = .returned (.string ⟨#[]⟩) ∧ w = w' := by
  go_enter Tryz.func62, Tryz.ntmps62
  go_wp2_with (first | (go_at_call 27; refine (int_nil _ _ (by omega)).mono ?_; rintro e w' ⟨rfl, rfl⟩) | (go_at_call 30; refine (take_nil _ _).mono ?_; rintro e w' ⟨rfl, rfl⟩))
  all_goals go_ret
  all_goals exact ⟨rfl, rfl⟩
theorem text_src (b : Nat) (r : RS) (n : Int) (w : World) (h : Src w b r) :
    Calls Tryz.prog 62 #[.pointer (some ⟨b, 0, none⟩), .int .i64 n] w fun e w' => e = .returned (.string ⟨(r.textB n).toArray⟩) ∧ Src w' b (r.textS n) ∧ Only b w w' := by
  unfold RS.textB RS.textS
  have hle := numV_le r (min n 65536).toNat
  have H := Lib.hid h
  clear h
  go_enter Tryz.func62, Tryz.ntmps62
  go_wp2_with fail
  refine (int_src b r _ _ (by omega) H.out).mono ?_
  rintro e w1 ⟨rfl, hs, ho⟩
  have HS := Lib.hid hs
  clear hs
  go_wp2_with fail
  refine (take_src b _ _ _ HS.out).mono ?_
  rintro e w2 ⟨rfl, hs2, ho2⟩
  have HS2 := Lib.hid hs2
  clear hs2
  go_wp2
  go_ret
  exact ⟨rfl, HS2.out, ho.trans ho2⟩

theorem bool_nil (w : World) : Calls Tryz.prog 61 #[.pointer none] w fun e w' => e = .returned (.bool false) ∧ w = w' := by
  go_enter Tryz.func61, Tryz.ntmps61
  go_wp2_with (go_at_call 30; refine (take_nil _ _).mono ?_; rintro e w' ⟨rfl, rfl⟩)
  go_ret
  exact ⟨rfl, rfl⟩
def RS.endS (r : RS) : RS := if r.s = [] then r else r.fail 3
/-- Word() -/
def RS.wordV (r : RS) : Nat := valN (r.takeB 4)
end Go.Proofs.YtgnnijpfkgmomaaGreatDoor
/-
  The contracts of a source's Word and List.
-/

namespace Go.Proofs.YtgnnijpfkgmomaaGreatDoor
open Go.RowKit
set_option linter.unusedVariables false

def word4 (a b c d : UInt8) : Int := ((valN [a, b, c, d] : Nat) : Int)
theorem word_or (x y z u : UInt8) : bits .or .u32 (bits .or .u32 (bits .or .u32 ((x.toNat : Int) % 4294967296 * 16777216 % 4294967296) ((y.toNat : Int) % 4294967296 * 65536 % 4294967296)) ((z.toNat : Int) % 4294967296 * 256 % 4294967296)) ((u.toNat : Int) % 4294967296) = ((valN [x, y, z, u] : Nat) : Int) := by
  have hx := x.toNat_lt
  have hy := y.toNat_lt
  have hz := z.toNat_lt
  have hu := u.toNat_lt
  rw [show ((x.toNat : Int) % 4294967296 * 16777216 % 4294967296) = ((2 ^ 24 * x.toNat : Nat) : Int) by omega, show ((y.toNat : Int) % 4294967296 * 65536 % 4294967296) = ((65536 * y.toNat : Nat) : Int) by omega,
    show ((z.toNat : Int) % 4294967296 * 256 % 4294967296) = ((256 * z.toNat : Nat) : Int) by omega, show ((u.toNat : Int) % 4294967296) = ((u.toNat : Nat) : Int) by omega]
  rw [u32_or_nat _ _ (by omega) (by omega), ← Nat.two_pow_add_eq_or_of_lt (i := 24) (b := 65536 * y.toNat) (by omega) x.toNat]
  rw [show 2 ^ 24 * x.toNat + 65536 * y.toNat = 2 ^ 16 * (256 * x.toNat + y.toNat) by omega, u32_or_nat _ _ (by omega) (by omega), ← Nat.two_pow_add_eq_or_of_lt (i := 16) (b := 256 * z.toNat) (by omega) _]
  rw [show 2 ^ 16 * (256 * x.toNat + y.toNat) + 256 * z.toNat = 2 ^ 8 * (256 * (256 * x.toNat + y.toNat) + z.toNat) by omega, u32_or_nat _ _ (by omega) (by omega), ← Nat.two_pow_add_eq_or_of_lt (i := 8) (b := u.toNat) (by omega) _]
  simp [valN]
  omega
/-- so many Ints, up to the first error -/
def intsR (q : RS) (limit : Nat) : Nat → RS × List Int
  | 0 => (q, [])
  | k + 1 => if (intsR q limit k).1.e ≠ 0 then intsR q limit k else ((intsR q limit k).1.numS limit, (intsR q limit k).2 ++ [((intsR q limit k).1.numV limit : Int)])
def RS.listS (r : RS) (many limit : Int) : RS := (intsR (r.numS many.toNat) limit.toNat (r.numV many.toNat)).1
def RS.listV (r : RS) (many limit : Int) : List Int := if (r.listS many limit).e ≠ 0 then [] else (intsR (r.numS many.toNat) limit.toNat (r.numV many.toNat)).2
theorem intsR_len (q : RS) (limit k : Nat) : (intsR q limit k).2.length ≤ k := by
  induction k with
  | zero => simp [intsR]
  | succ k ih =>
    rw [intsR]
    split
    · omega
    · simp; omega
theorem intsR_stop (q : RS) (limit k n : Nat) (h : (intsR q limit k).1.e ≠ 0) (hk : k ≤ n) : intsR q limit n = intsR q limit k := by
  induction n with
  | zero => obtain rfl : k = 0 := by omega
            rfl
  | succ n ih =>
    by_cases e : k = n + 1
    · subst e; rfl
    · rw [intsR, ih (by omega), if_pos h]
theorem info_int : (Tryz.prog.info? 3).map (fun i => (i.zero, i.size, i.bytes)) = some (some (.int .i64 0), 1, 8) := by kernel_rfl
def iCells (l : List Int) : List Value := l.map (Value.int .i64)
def ListPost (b : Nat) (r : RS) (many limit : Int) (w : World) (e : Ending) (w' : World) : Prop :=
  ∃ v, e = .returned v ∧ w'.ownsRow w.heap.size 3 1 v (r.listV many limit).length (iCells (r.listV many limit)) ∧ Src w' b (r.listS many limit) ∧ Only b w w'
end Go.Proofs.YtgnnijpfkgmomaaGreatDoor
/-
  The waking call of layer 1's statements: a number there and back.
-/

namespace Go.Proofs.YtgnnijpfkgmomaaGreatDoor
open Go.RowKit
set_option linter.unusedVariables false

theorem put300 : putN 300 = [2, 1, 44] := by decide +kernel
theorem put2 : putN 2 = [1, 2] := by decide +kernel
theorem aw_v : (⟨[2, 1, 44, 1, 2, 97, 98], 0⟩ : RS).numV 300 = 300 := by decide +kernel
theorem aw_s : (⟨[2, 1, 44, 1, 2, 97, 98], 0⟩ : RS).numS 300 = ⟨[1, 2, 97, 98], 0⟩ := by rfl
theorem aw_t : (⟨[1, 2, 97, 98], 0⟩ : RS).textB 2 = [97, 98] := by decide +kernel
theorem aw_u : (⟨[1, 2, 97, 98], 0⟩ : RS).textS 2 = ⟨[], 0⟩ := by rfl
theorem aw_e : (⟨[], 0⟩ : RS).endS = ⟨[], 0⟩ := by rfl
end Go.Proofs.YtgnnijpfkgmomaaGreatDoor
