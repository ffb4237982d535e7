/-
  The contracts of a source's Word and List.
-/
import Derived.Test.YtkdmnhmlkcejfaaDoorNumG
namespace Go.Proofs.YtkdmnhmlkcejfaaDoor
open Go.RowKit
set_option linter.unusedVariables false

def word4 (a b c d : UInt8) : Int := ((valN [a, b, c, d] : Nat) : Int)
theorem word_or (x y z u : UInt8) : bits .or .u32 (bits .or .u32 (bits .or .u32 ((x.toNat : Int) % 4294967296 * 16777216 % 4294967296) ((y.toNat : Int) % 4294967296 * 65536 % 4294967296)) ((z.toNat : Int) % 4294967296 * 256 % 4294967296)) ((u.toNat : Int) % 4294967296) = ((valN [x, y, z, u] : Nat) : Int) := by
  have hx := x.toNat_lt
  have hy := y.toNat_lt
  have hz := z.toNat_lt
  have hu := u.toNat_lt
  rw [show ((x.toNat : Int) % 4294967296 * 16777216 % 4294967296) = ((2 ^ 24 * x.toNat : Nat) : Int) by omega, show ((y.toNat : Int) % 4294967296 * 65536 % 4294967296) = ((65536 * y.toNat : Nat) : Int) by omega,
    show ((z.toNat : Int) % 4294967296 * 256 % 4294967296) = ((256 * z.toNat : Nat) : Int) by omega, show ((u.toNat : Int) % 4294967296) = ((u.toNat : Nat) : Int) by omega]
  rw [u32_or_nat _ _ (by omega) (by omega), ← Nat.two_pow_add_eq_or_of_lt (i := 24) (b := 65536 * y.toNat) (by omega) x.toNat]
  rw [show 2 ^ 24 * x.toNat + 65536 * y.toNat = 2 ^ 16 * (256 * x.toNat + y.toNat) by omega, u32_or_nat _ _ (by omega) (by omega), ← Nat.two_pow_add_eq_or_of_lt (i := 16) (b := 256 * z.toNat) (by omega) _]
  rw [show 2 ^ 16 * (256 * x.toNat + y.toNat) + 256 * z.toNat = 2 ^ 8 * (256 * (256 * x.toNat + y.toNat) + z.toNat) by omega, u32_or_nat _ _ (by omega) (by omega), ← Nat.two_pow_add_eq_or_of_lt (i := 8) (b := u.toNat) (by omega) _]
  simp [valN]
  omega
set_option maxHeartbeats 800000 in
theorem sword_src (b : Nat) (r : RS) (w : World) (h : Src w b r) :
    Calls Tryd.prog 91 #[.pointer (some ⟨b, 0, none⟩)] w fun e w' => e = .returned (.int .u32 r.wordV) ∧ Src w' b (r.takeS 4) ∧ Only b w w' := by
  have H := Lib.hid h
  clear h
  go_enter Tryd.func91, Tryd.ntmps91
  go_wp2_with fail
  refine (take_src b r 4 _ H.out).mono ?_
  rintro e w1 ⟨rfl, hs, ho⟩
  obtain ⟨hd, hhd⟩ : ∃ p, r.takeB 4 = p := ⟨_, rfl⟩
  have hlen := takeB_len r 4
  have hall : hd = [] ∨ hd.length = 4 := by
    subst hhd
    unfold RS.takeB
    split
    · exact .inl rfl
    · split
      · exact .inl rfl
      · right; rw [List.length_take]; omega
  rw [hhd] at hlen ⊢
  have HB := Lib.hid hhd
  have HS := Lib.hid hs
  clear hs hhd
  by_cases hne : hd = []
  · have he : hd.isEmpty = true := by simp [hne]
    have HN := Lib.hid hne
    clear hne hlen hall
    go_wp2
    go_ret
    exact ⟨ret_int (by rw [RS.wordV, HB.out, HN.out]; rfl), HS.out, ho⟩
  · have hl4 : hd.length = 4 := hall.resolve_left hne
    match hd, hl4 with
    | [x, y, z, u], _ =>
    clear hall hlen
    have hV : r.wordV = valN [x, y, z, u] := by rw [RS.wordV, HB.out]
    have HV := Lib.hid hV
    have i0 : ∀ h, (⟨[x, y, z, u].toArray⟩ : ByteArray)[0]'h = x := fun _ => rfl
    have i1 : ∀ h, (⟨[x, y, z, u].toArray⟩ : ByteArray)[1]'h = y := fun _ => rfl
    have i2 : ∀ h, (⟨[x, y, z, u].toArray⟩ : ByteArray)[2]'h = z := fun _ => rfl
    have i3 : ∀ h, (⟨[x, y, z, u].toArray⟩ : ByteArray)[3]'h = u := fun _ => rfl
    clear hV hne
    go_wp2
    go_quiet (fail)
    go_wp2
    go_ret
    refine ⟨ret_int (by rw [HV.out]; exact word_or x y z u), ?_, ho.drewN _⟩
    have hh := HS.out
    unfold Src at hh ⊢
    rw [drewN_heap]
    exact hh

/-- so many Ints, up to the first error -/
def intsR (q : RS) (limit : Nat) : Nat → RS × List Int
  | 0 => (q, [])
  | k + 1 => if (intsR q limit k).1.e ≠ 0 then intsR q limit k else ((intsR q limit k).1.numS limit, (intsR q limit k).2 ++ [((intsR q limit k).1.numV limit : Int)])
def RS.listS (r : RS) (many limit : Int) : RS := (intsR (r.numS many.toNat) limit.toNat (r.numV many.toNat)).1
def RS.listV (r : RS) (many limit : Int) : List Int := if (r.listS many limit).e ≠ 0 then [] else (intsR (r.numS many.toNat) limit.toNat (r.numV many.toNat)).2
theorem intsR_len (q : RS) (limit k : Nat) : (intsR q limit k).2.length ≤ k := by
  induction k with
  | zero => simp [intsR]
  | succ k ih =>
    rw [intsR]
    split
    · omega
    · simp; omega
theorem intsR_stop (q : RS) (limit k n : Nat) (h : (intsR q limit k).1.e ≠ 0) (hk : k ≤ n) : intsR q limit n = intsR q limit k := by
  induction n with
  | zero => obtain rfl : k = 0 := by omega
            rfl
  | succ n ih =>
    by_cases e : k = n + 1
    · subst e; rfl
    · rw [intsR, ih (by omega), if_pos h]
theorem slist_nil (n m : Int) (w : World) (h : n ≤ 9223372036854775807) : Calls Tryd.prog 72 #[.pointer none, .int .i64 n, .int .i64 m] w fun e w' => e = .returned (.slice none 0 0) ∧ w = w' := by
  go_enter Tryd.func72, Tryd.ntmps72
  go_wp2_with (go_at_call 92; refine (int_nil _ _ h).mono ?_; rintro e w' ⟨rfl, rfl⟩)
  refine wp_loop_rounds 1 ?_
  rw [rounds_succ]
  go_wp2_with (go_at_call 71; refine (err_nil _).mono ?_; rintro e w' ⟨rfl, rfl⟩)
  go_ret
  exact ⟨rfl, rfl⟩
theorem info_int : (Tryd.prog.info? 3).map (fun i => (i.zero, i.size, i.bytes)) = some (some (.int .i64 0), 1, 8) := by kernel_rfl
def iCells (l : List Int) : List Value := l.map (Value.int .i64)
def ListPost (b : Nat) (r : RS) (many limit : Int) (w : World) (e : Ending) (w' : World) : Prop :=
  ∃ v, e = .returned v ∧ w'.ownsRow w.heap.size 3 1 v (r.listV many limit).length (iCells (r.listV many limit)) ∧ Src w' b (r.listS many limit) ∧ Only b w w'
set_option maxHeartbeats 1600000 in
set_option maxRecDepth 100000 in
theorem slist_src (b : Nat) (r : RS) (many limit : Int) (w : World) (hn : many ≤ 1000000) (hl : limit ≤ 9223372036854775807) (h : Src w b r) :
    Calls Tryd.prog 72 #[.pointer (some ⟨b, 0, none⟩), .int .i64 many, .int .i64 limit] w (ListPost b r many limit w) := by
  obtain ⟨i0, hi, hz0, hz1, hz2⟩ := info_parts info_int
  have H := Lib.hid h
  have hb := h.lt
  have hnv := numV_le r many.toNat
  clear h
  go_enter Tryd.func72, Tryd.ntmps72
  go_wp2_with fail
  refine (int_src b r _ _ (by omega) H.out).mono ?_
  rintro e w1 ⟨rfl, hs, ho⟩
  obtain ⟨q, hq⟩ : ∃ p, r.numS many.toNat = p := ⟨_, rfl⟩
  obtain ⟨m, hm⟩ : ∃ p, r.numV many.toNat = p := ⟨_, rfl⟩
  rw [hq] at hs
  rw [hm] at hnv ⊢
  have HQ := Lib.hid hq
  have HM := Lib.hid hm
  have HS := Lib.hid hs
  have hsz := ho.size
  have HO := Lib.hid ho
  clear hq hm hs ho
  go_wp2_with fail
  go_loopw [8, 9] (fun v i wr => ∃ k : Nat, k ≤ m ∧ i = .int .i64 k ∧ wr.ownsRow w.heap.size 3 1 v (intsR q limit.toNat k).2.length (iCells (intsR q limit.toNat k).2) ∧ Src wr b (intsR q limit.toNat k).1 ∧ Only b w wr) (fun _ i _ => m - (intOf i).toNat)
  case atStart => exact ⟨0, Nat.zero_le _, rfl, World.ownsRow_nil _ _ _ _, HS.out, HO.out⟩
  case round =>
    obtain ⟨k, hk, rfl, hown, hsr, hor⟩ := hrel
    obtain ⟨p, hp⟩ : ∃ p, (intsR q limit.toNat k).1 = p := ⟨_, rfl⟩
    obtain ⟨l, hll⟩ : ∃ p, (intsR q limit.toNat k).2 = p := ⟨_, rfl⟩
    have hlk := intsR_len q limit.toNat k
    rw [hp] at hsr
    rw [hll] at hown hlk
    have HP := Lib.hid hp
    have HLL := Lib.hid hll
    have h1 := hsr.c1
    have HSR := Lib.hid hsr
    have hszr := hor.size
    clear hp hll hsr
    by_cases hlt : k < m
    · have hlt' : (k : Int) < (m : Int) := by omega
      by_cases he : p.e = 0
      · have hS : (intsR q limit.toNat (k + 1)).1 = p.numS limit.toNat := by rw [intsR, HP.out, if_neg (by simpa using he)]
        have hL : (intsR q limit.toNat (k + 1)).2 = l ++ [(p.numV limit.toNat : Int)] := by rw [intsR, HP.out, if_neg (by simpa using he), HLL.out]
        rw [he] at h1
        have HS1 := Lib.hid hS
        have HL1 := Lib.hid hL
        clear he hS hL
        go_wp2_with (go_at_call 71; refine (err_some _ _ _ h1).mono ?_; rintro e w' ⟨rfl, rfl⟩)
        refine (int_src b p limit _ hl HSR.out).mono ?_
        rintro e w3 ⟨rfl, hs3, ho3⟩
        have hown3 := owns_kept hown ho3 hb
        have HS3 := Lib.hid hs3
        have hsz3 := ho3.size
        have HO3 := Lib.hid ho3
        clear hs3 ho3 hown
        go_wp2_with (at_builtin; refine wpList_append_own _ rfl (.tmp 23) (.tmp 27) 22 rfl w.heap.size 3 i0 (.int .i64 0) 1 8 Tryd.underlying22 hi hz0 hz1 hz2 rfl (by decide) _ _ _ rfl (hown3.alloc _) ⟨w3.heap.size, 0, none⟩ 1 1 [.int .i64 (p.numV limit.toNat)] rfl rfl ?c1 ?c2 ?c3 ?c4 ?c5 ?_)
        case c1 => exact (cell_one_new _ _ _)
        case c2 => intro u hu; simp at hu; subst hu; rfl
        case c3 => unfold maxLen; omega
        case c4 => omega
        case c5 => simp; omega
        intro v' w4 hown4 hgr _
        have HG := Lib.hid hgr
        have HW4 := Lib.hid hown4
        clear hgr hown4
        go_wp2
        go_roundw
        case rel =>
          refine ⟨k + 1, by omega, by go_num, ?_, ?_, ?_⟩
          · rw [HL1.out]
            have := HW4.out
            simpa [iCells] using this
          · rw [HS1.out]
            have hsb := HS3.out
            unfold Src at hsb ⊢
            rw [HG.out.block b (by simp; omega) (fun e => by have := (hown3.lt b e.symm).1; omega), Below.heap_alloc _ _ _ (by omega)]
            exact hsb
          · exact ((hor.trans HO3.out).alloc _).grown HG.out (fun z hz => (hown3.lt z hz).1)
        case measure => simp [intOf]; omega
      · have heb : (p.e != 0) = true := by simpa using he
        have heb' : (p.e == 0) = false := by simpa using he
        have hst : intsR q limit.toNat m = intsR q limit.toNat k := intsR_stop q limit.toNat k m (by rw [HP.out]; exact he) (by omega)
        have hlS : r.listS many limit = p := by rw [RS.listS, HQ.out, HM.out, hst, HP.out]
        have hlV : r.listV many limit = [] := by rw [RS.listV, hlS, if_pos he]
        have HA := Lib.hid hlS
        have HB := Lib.hid hlV
        clear he hst hlS hlV
        go_wp2_with (go_at_call 71; refine (err_some _ _ _ h1).mono ?_; rintro e w' ⟨rfl, rfl⟩)
        go_ret
        exact ⟨_, rfl, by rw [HB.out]; exact World.ownsRow_nil _ _ _ _, by rw [HA.out]; exact HSR.out, hor⟩
    · have hkm : k = m := by omega
      subst hkm
      have hlS : r.listS many limit = p := by rw [RS.listS, HQ.out, HM.out, HP.out]
      have HA := Lib.hid hlS
      clear hlS
      by_cases he : p.e = 0
      · have hlV : r.listV many limit = l := by rw [RS.listV, HA.out, if_neg (by simpa using he), HQ.out, HM.out, HLL.out]
        have HB := Lib.hid hlV
        rw [he] at h1
        clear he hlV
        go_wp2_with (go_at_call 71; refine (err_some _ _ _ h1).mono ?_; rintro e w' ⟨rfl, rfl⟩)
        go_ret
        exact ⟨_, rfl, by rw [HB.out]; exact hown, by rw [HA.out]; exact HSR.out, hor⟩
      · have heb : (p.e != 0) = true := by simpa using he
        have hlV : r.listV many limit = [] := by rw [RS.listV, HA.out, if_pos he]
        have HB := Lib.hid hlV
        clear he hlV
        go_wp2_with (go_at_call 71; refine (err_some _ _ _ h1).mono ?_; rintro e w' ⟨rfl, rfl⟩)
        go_ret
        exact ⟨_, rfl, by rw [HB.out]; exact World.ownsRow_nil _ _ _ _, by rw [HA.out]; exact HSR.out, hor⟩
end Go.Proofs.YtkdmnhmlkcejfaaDoor
