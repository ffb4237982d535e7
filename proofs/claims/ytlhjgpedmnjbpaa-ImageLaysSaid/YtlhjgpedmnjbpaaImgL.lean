/-
  ImageLays' law.
-/
import Derived.Test.YtlhjgpedmnjbpaaImgK
namespace Go.Proofs.Ytlhjgpedmnjbpaa
open Go.RowKit
set_option linter.unusedVariables false
set_option linter.unusedSimpArgs false

theorem str_atI {w wr : World} {a : Option Addr} {len cap : Nat} (h : Fits w (.slice .str) [.slice a len cap]) (hb : Below w.heap.size w wr) (i : Nat) (hi : i < len) : ∃ b off s, a = some ⟨b, off, none⟩ ∧ wr.cell? ⟨b, off + i, none⟩ = some (.string s) ∧ s.size ≤ maxLen := by
  obtain ⟨_, _, h0 | ⟨b, off, rfl, hlt, hc⟩⟩ := h.slice
  · omega
  · obtain ⟨ys, _, hy, s, rfl, hs⟩ := hc i hi
    refine ⟨b, off, s, rfl, ?_, hs⟩
    have := hy 0 _ rfl
    simp only [Sh.size, Nat.mul_one, Nat.add_zero] at this
    exact (hb.cell (p := ⟨b, off + i, none⟩) hlt).trans this
theorem owns_sameI {w w' : World} {base n size : Nat} {e : TypeId} {v : Value} {xs : List Value} (h : w.ownsRow base e size v n xs) (hk : ∀ k, v.ownBlock = some k → w'.heap[k]? = w.heap[k]?) : w'.ownsRow base e size v n xs := by
  refine ⟨h.1, ?_⟩
  rcases h.2 with hn | ⟨g, cap, cur, rfl, hb, hg, rest⟩
  · exact .inl hn
  · exact .inr ⟨g, cap, cur, rfl, hb, (hk g rfl).trans hg, rest⟩
theorem Dsk.sameI {w w' : World} {N p : Nat} {sv lv : Value} {S : List ByteArray} {L : List (Nat × ByteArray)} (h : Dsk w N p sv lv S L) (hp : w'.heap[p]? = w.heap[p]?) (hs : ∀ k, sv.ownBlock = some k → w'.heap[k]? = w.heap[k]?) (hl : ∀ k, lv.ownBlock = some k → w'.heap[k]? = w.heap[k]?) : Dsk w' N p sv lv S L :=
  ⟨h.hp, hp.trans h.obj, owns_sameI h.sure hs, owns_sameI h.later hl, h.sizes, h.ats, h.most⟩
theorem Dsk.apart {w w' : World} {N p q M : Nat} {sv lv sv2 lv2 lv3 : Value} {S : List ByteArray} {L : List (Nat × ByteArray)} (h : Dsk w N p sv lv S L) (k : DKept w w' M q sv2 lv2 lv3) (hq : q < N) (hs : ∀ j, sv2.ownBlock = some j → j < N) (hl : ∀ j, lv2.ownBlock = some j → j < N) : Dsk w' N p sv lv S L := by
  refine h.sameI ?_ ?_ ?_
  · exact k.block p h.lt (by have := h.hp; omega) (fun e => by have := hs p e.symm; have := h.hp; omega) (fun e => by have := hl p e.symm; have := h.hp; omega)
  · intro j e
    obtain ⟨h1, h2⟩ := h.sure.lt j e
    exact k.block j h2 (by omega) (fun e2 => by have := hs j e2.symm; omega) (fun e2 => by have := hl j e2.symm; omega)
  · intro j e
    obtain ⟨h1, h2⟩ := h.later.lt j e
    exact k.block j h2 (by omega) (fun e2 => by have := hs j e2.symm; omega) (fun e2 => by have := hl j e2.symm; omega)
theorem short1 : unpE [1] = 2 := by decide +kernel
theorem wf_u64I {z : Int} (h : (Lit.int .u64 z).wf = true) : ∃ m : Nat, z = m ∧ m < 18446744073709551616 := by
  simp [Lit.wf, IntKind.min, IntKind.max, IntKind.signed, IntKind.bits] at h
  exact ⟨z.toNat, by omega, by omega⟩
set_option maxHeartbeats 6400000 in
set_option maxRecDepth 100000 in
theorem imagelays_law (a0 : Option Addr) (len0 cap0 : Nat) (sync u : Int) (w : World) (f0 : Fits w (.slice .str) [.slice a0 len0 cap0]) (hsync : (Lit.int .i64 sync).wf = true) (hu : (Lit.int .u64 u).wf = true) :
    Calls Try.prog 11 #[.slice a0 len0 cap0, .int .i64 sync, .int .u64 u] w fun e w' => e = .returned (.bool true) ∧ Below w.heap.size w w' := by
  obtain ⟨U, rfl, hU⟩ := wf_u64I hu
  have hl0 : len0 ≤ 9223372036854775807 := by have := f0.slice; unfold maxLen at this; omega
  have F0 := Lib.hid f0
  have HU := Lib.hid hU
  obtain ⟨y15, hy15⟩ : ∃ y15, bits .and .i64 sync 15 = y15 := ⟨_, rfl⟩
  have cn := dnew 8 w (by omega) (by omega)
  clear hsync hu f0 hU
  go_enter Try.func11, Try.ntmps11
  go_wp2_with fail
  refine Calls.mono cn ?_
  rintro e w1 ⟨p, sv, rfl, hd, hb⟩
  have HD := Lib.hid hd
  have HB := Lib.hid hb
  clear hd hb cn
  go_wp2_with fail
  go_loopw [9] (fun iv wr => ∃ (k : Nat) (lv : Value) (S : List ByteArray) (L : List (Nat × ByteArray)), iv = .int .i64 k ∧ k ≤ 12 ∧ Dsk wr w.heap.size p sv lv S L ∧ S.length = 8 ∧ L.length ≤ k ∧ Below w.heap.size w wr) (fun iv _ => 12 - (intOf iv).toNat)
  case atStart => exact ⟨0, _, _, _, rfl, by omega, HD.out, freshS_length 8, by simp, HB.out⟩
  case round =>
    obtain ⟨k, lv, S, L, rfl, hk, hd, hS, hL, hb⟩ := hrel
    have HDr := Lib.hid hd
    have HBr := Lib.hid hb
    have HS := Lib.hid hS
    by_cases hmore : k < len0 ∧ k < 12
    · obtain ⟨hkl, h12⟩ := hmore
      have hkli : (k : Int) < (len0 : Int) := by omega
      have h12i : (k : Int) < 12 := by omega
      obtain ⟨b, off, s, rfl, cs, hss⟩ := str_atI F0.out hb k hkl
      unfold maxLen at hss
      have hm7 := mask7 k
      obtain ⟨k8, hk8⟩ : ∃ k8, k % 8 = k8 := ⟨_, rfl⟩
      have hk8l : k8 < 8 := by omega
      have hk8i : (k : Int) % 8 = (k8 : Int) := by omega
      rw [hk8i] at hm7
      have hmin : min (s.size : Int) 64 = ((min s.size 64 : Nat) : Int) := by omega
      obtain ⟨m, hm⟩ : ∃ m, min s.size 64 = m := ⟨_, rfl⟩
      rw [hm] at hmin
      have hmi : (m : Int) ≤ (s.size : Int) := by omega
      have hmn : m ≤ s.size := by omega
      obtain ⟨s', hs'⟩ : ∃ s', s.extract 0 m = s' := ⟨_, rfl⟩
      have hs64 : s'.size ≤ 64 := by rw [← hs', ByteArray.size_extract]; omega
      have cw := dwrite k8 s' wr.drew _ p sv lv S L hd.drew (by rw [hS]; exact hk8l) hs64 (by omega)
      clear hd hb hS hk8 hk8i hm
      go_wp2_with fail
      go_still_tail 14, (by kernel_rfl)
      change wpList _ _ _ _ _ wr.drew
      go_wp2_with fail
      refine Calls.mono cw ?_
      rintro e w2 ⟨rfl, lv2, hd2, hk2⟩
      have HD2 := Lib.hid hd2
      have HB2 := Lib.hid ((below_drew' HBr.out).trans hk2.below)
      have hL2 : (L ++ [(k8, s' ++ zeroL (64 - s'.size))]).length ≤ k + 1 := by simp; omega
      obtain ⟨L2, hL2e⟩ : ∃ L2, L ++ [(k8, s' ++ zeroL (64 - s'.size))] = L2 := ⟨_, rfl⟩
      rw [hL2e] at HD2 hL2
      have cy := dsync w2 _ p sv lv2 S L2 HD2.out (by omega)
      clear hd2 hk2 cw hL2e cs
      rcases hyk : decide (((k : Int) == y15) = true) with _ | _
      · have hyf : ((k : Int) == y15) = false := by simpa using hyk
        clear hyk cy
        go_wp2_with fail
        go_roundw
        case rel => exact ⟨k + 1, lv2, S, L2, by go_num, by omega, HD2.out, HS.out, hL2, HB2.out⟩
        case measure => simp [intOf]; omega
      · have hyf : ((k : Int) == y15) = true := by simpa using hyk
        clear hyk
        go_wp2_with fail
        refine Calls.mono cy ?_
        rintro e w3 ⟨rfl, hd3, hk3⟩
        have HD3 := Lib.hid hd3
        have HB3 := Lib.hid (HB2.out.trans hk3.below)
        clear hd3 hk3 cy
        go_wp2_with fail
        go_roundw
        case rel => exact ⟨k + 1, _, _, _, by go_num, by omega, HD3.out, by rw [syncS, endS_length]; exact HS.out, by simp, HB3.out⟩
        case measure => simp [intOf]; omega
    · have hcl := fun j (hj : j < 8) => curD_size hd j (by omega)
      have hVl := catD_len S L 8 hcl
      have hVa := fun i (hi : i < 8) => catD_at S L 8 hcl i hi
      have co := iof wr _ p sv lv S L hd (by omega)
      rw [hS] at co
      obtain ⟨V, hV⟩ : ∃ V, catD S L 8 = V := ⟨_, rfl⟩
      rw [hV] at hVl co
      simp only [hV] at hVa
      obtain ⟨hu1, hu2⟩ := unp_back V (by omega)
      obtain ⟨P, hP⟩ : ∃ P, packL [] V = P := ⟨_, rfl⟩
      rw [hP] at hu1 hu2 co
      have hxy : ∀ i, i < 8 → curD S L i = chunkB V i := fun i hi => str_ext (by rw [← hVa i hi]; rfl)
      have HXY := Lib.hid hxy
      have HVL := Lib.hid hVl
      have HU1 := Lib.hid hu1
      have HU2 := Lib.hid hu2
      clear hd hb hcl hVl hVa hV hu1 hu2 hP hxy hS
      have hstop : ¬ ((k : Int) < (len0 : Int)) ∨ ((k : Int) < (len0 : Int)) ∧ ¬ ((k : Int) < 12) := by omega
      clear hmore
      rcases hstop with h1 | ⟨h1, h2⟩
      all_goals
        go_wp2_with fail
        refine Calls.mono co ?_
        rintro e w2 ⟨rfl, hb2⟩
        have HD2 := Lib.hid (HDr.out.below hb2)
        have HB2 := Lib.hid (HBr.out.trans (hb2.mono HBr.out.size))
        clear hb2 co h1
        go_wp2_with fail
        refine Calls.mono (dnew 8 w2 (by omega) (by omega)) ?_
        rintro e w3 ⟨p2, sv2, rfl, hd3, hb3⟩
        go_wp2_with fail
        refine Calls.mono (dnew 9 w3 (by omega) (by omega)) ?_
        rintro e w4 ⟨p3, sv3, rfl, hd4, hb4⟩
        have HC4 := Lib.hid (hd3.below hb4)
        have HO4 := Lib.hid hd4
        have HB24 := Lib.hid (hb3.trans (hb4.mono hb3.size))
        have hp23 : p2 < w3.heap.size := hd3.lt
        have hs23 : ∀ j, sv2.ownBlock = some j → j < w3.heap.size := fun j e => (hd3.sure.lt j e).2
        have hN23 := hb3.size
        have cl := ilay P w4 _ p2 sv2 _ _ (hd3.below hb4) HU2.out (by rw [HU1.out, HVL.out, freshS_length]) (by rw [freshS_length]; omega)
        rw [HU1.out] at cl
        have HPS := Lib.hid (And.intro hp23 (And.intro hs23 hN23))
        clear hd3 hb3 hd4 hb4 hp23 hs23 hN23
        go_wp2_with fail
        refine Calls.mono cl ?_
        rintro e w5 ⟨rfl, S2, hd5, hk5, hS2, hat⟩
        rw [freshS_length] at hS2 hat
        have HC5 := Lib.hid hd5
        have HB25 := Lib.hid (HB24.out.trans hk5.below)
        have HO5 := Lib.hid (HO4.out.apart hk5 HPS.out.1 HPS.out.2.1 (fun j e => by simp [Value.ownBlock] at e))
        have HS2 := Lib.hid hS2
        have HAT := Lib.hid hat
        have cl2 := ilay_other P w5 _ p3 sv3 _ _ _ HO5.out HU2.out (by rw [HU1.out, HVL.out, freshS_length]; omega)
        clear hd5 hk5 hS2 hat cl
        go_wp2_with fail
        refine Calls.mono cl2 ?_
        rintro e w6 ⟨rfl, hb6⟩
        have HC6 := Lib.hid (HC5.out.below hb6)
        have HB26 := Lib.hid (HB25.out.trans (hb6.mono HB25.out.size))
        clear hb6 cl2
        go_wp2_with fail
        refine Calls.mono (ilay_nil P w6 HU2.out) ?_
        rintro e w7 ⟨rfl, hb7⟩
        have HC7 := Lib.hid (HC6.out.below hb7)
        have HB27 := Lib.hid (HB26.out.trans (hb7.mono HB26.out.size))
        have cc := dcrash U HU.out w7 _ p2 sv2 _ _ _ HC7.out (by simp)
        clear hb7
        go_wp2_with fail
        refine Calls.mono cc ?_
        rintro e w8 ⟨rfl, hd8, hk8⟩
        have hcs : crashS U S2 [] = S2 := rfl
        rw [hcs] at hd8
        have HC8 := Lib.hid hd8
        have HB28 := Lib.hid (HB27.out.trans hk8.below)
        clear hd8 hk8 hcs cc
        go_wp2_with fail
        go_loopw [18] (fun iv wx => ∃ i : Nat, iv = .int .i64 i ∧ i ≤ 8 ∧ Below w2.heap.size w2 wx ∧ Dsk wx w2.heap.size p2 sv2 (.slice none 0 0) S2 []) (fun iv _ => 8 - (intOf iv).toNat)
        case atStart => exact ⟨0, rfl, by omega, HB28.out, HC8.out⟩
        case round =>
          obtain ⟨i, rfl, hi, hbx, hdx⟩ := hrel
          have HBx := Lib.hid hbx
          have HDx := Lib.hid hdx
          by_cases hlt : i < 8
          · have hlti : (i : Int) < 8 := by omega
            have cr := dread i wr _ p sv lv S L (HD2.out.below hbx) (by rw [HS.out]; exact hlt) (by omega)
            have hx := HXY.out i hlt
            rw [hx] at cr
            have hcy : curD S2 [] i = chunkB V i := by
              show S2.getD i ⟨#[]⟩ = _
              rw [List.getD_eq_getElem?_getD, HAT.out i hlt]
              rfl
            have cr2 := fun w' (hb : Below wr.heap.size wr w') => dread i w' _ p2 sv2 _ S2 [] (HDx.out.below hb) (by rw [HS2.out]; exact hlt) (by simp)
            simp only [hcy] at cr2
            obtain ⟨X, hX⟩ : ∃ X, chunkB V i = X := ⟨_, rfl⟩
            rw [hX] at cr
            simp only [hX] at cr2
            clear hbx hdx hx hcy hX
            go_wp2_with fail
            refine Calls.mono cr ?_
            rintro e w9 ⟨rfl, hb9⟩
            have c2 := cr2 w9 hb9
            have HB9 := Lib.hid hb9
            clear hb9 cr cr2
            go_wp2_with fail
            refine Calls.mono c2 ?_
            rintro e w10 ⟨rfl, hb10⟩
            have HB10 := Lib.hid (HB9.out.trans (hb10.mono HB9.out.size))
            clear hb10 c2
            go_wp2_with fail
            go_roundw
            case rel => exact ⟨i + 1, by go_num, by omega, HBx.out.trans (HB10.out.mono HBx.out.size), HDx.out.below HB10.out⟩
            case measure => simp [intOf]; omega
          · obtain rfl : i = 8 := by omega
            clear hbx hdx
            go_wp2_with fail
            refine Calls.mono (awake56 wr) ?_
            rintro e w9 ⟨rfl, hb9⟩
            have HB9 := Lib.hid (HBx.out.trans (hb9.mono HBx.out.size))
            have ce := ilay_err (some ⟨p2, 0, none⟩) [1] w9 (by rw [short1]; decide)
            rw [short1] at ce
            have ce' : Calls Try.prog 72 #[.pointer (some ⟨p2, 0, none⟩), .string ⟨#[1]⟩] w9 fun e w' => e = .returned (.int .i64 2) ∧ Below w9.heap.size w9 w' := ce
            clear hb9 ce
            go_wp2_with fail
            refine Calls.mono ce' ?_
            rintro e w10 ⟨rfl, hb10⟩
            have HB10 := Lib.hid (HB9.out.trans (hb10.mono HB9.out.size))
            clear hb10 ce'
            go_wp2_with fail
            refine Calls.mono (iof0 w10) ?_
            rintro e w11 ⟨rfl, hb11⟩
            have HB11 := Lib.hid (HB10.out.trans (hb11.mono HB10.out.size))
            clear hb11
            go_wp2_with fail
            go_ret
            exact ⟨rfl, HB2.out.trans (HB11.out.mono HB2.out.size)⟩
end Go.Proofs.Ytlhjgpedmnjbpaa
