/-
  area.Write.
-/
import Derived.Test.YtcoliadgnbhkaaaAreaB
namespace Go.Proofs.Ytcoliadgnbhkaaa
open Go.RowKit
set_option linter.unusedVariables false
set_option linter.unusedSimpArgs false

theorem ext_ext (s : ByteArray) (k m : Nat) (hk : k ≤ s.size) : (s.extract k s.size).extract m (s.extract k s.size).size = s.extract (k + m) s.size := by
  apply str_ext
  have h1 : (s.extract k s.size).size = s.size - k := ext_sz s k s.size (Nat.le_refl _)
  have hl : s.data.toList.length = s.size := rfl
  rw [h1, ext_l, ext_l, ext_l]
  rw [List.take_of_length_le (l := List.drop k s.data.toList) (by rw [List.length_drop, hl]; exact Nat.le_refl _), List.drop_drop]
  rw [List.take_of_length_le (by rw [List.length_drop, hl]; omega), List.take_of_length_le (by rw [List.length_drop, hl]; omega)]
theorem ext_all (s : ByteArray) : s.extract 0 s.size = s := by
  apply str_ext
  rw [ext_l, List.drop_zero, Nat.sub_zero]
  exact List.take_of_length_le (Nat.le_refl _)
/-- what the loop of Write keeps -/
structure WrR (w wr : World) (N p : Nat) (sv lv : Value) (S : List ByteArray) (L : List (Nat × ByteArray)) (B n k : Nat) (s : ByteArray) : Prop where
  ex : ∃ lv2 L2, Dsk wr N p sv lv2 S L2 ∧ Laid S L L2 B n k s ∧ DKept w wr N p sv lv lv2
theorem WrR.below {w wr w2 : World} {N p B n k : Nat} {sv lv : Value} {S : List ByteArray} {L : List (Nat × ByteArray)} {s : ByteArray} (h : WrR w wr N p sv lv S L B n k s) (hb : Below wr.heap.size wr w2) : WrR w w2 N p sv lv S L B n k s := by
  obtain ⟨lv2, L2, h1, h2, h3⟩ := h.ex
  exact ⟨lv2, L2, h1.below hb, h2, h3.trans (DKept.of_below h1.le hb)⟩
theorem WrR.base {w w2 wr : World} {N p B n k : Nat} {sv lv : Value} {S : List ByteArray} {L : List (Nat × ByteArray)} {s : ByteArray} (h : WrR w2 wr N p sv lv S L B n k s) (hk : DKept w w2 N p sv lv lv) : WrR w wr N p sv lv S L B n k s := by
  obtain ⟨lv2, L2, h1, h2, h3⟩ := h.ex
  exact ⟨lv2, L2, h1, h2, hk.trans h3⟩
theorem WrR.next {w2 w3 w6 : World} {N p B n k sec i m : Nat} {sv lv lv2 v2 : Value} {S : List ByteArray} {L L2 : List (Nat × ByteArray)} {s E Y : ByteArray} (hla : Laid S L L2 B n k s) (hd : Dsk w3 N p sv lv2 S L2) (hk : DKept w2 w3 N p sv lv lv2) (hd6 : Dsk w6 N p sv v2 S (L2 ++ [(sec, Y)])) (hk6 : DKept w3 w6 N p sv lv2 v2)
    (hY : Y = spliceB (curD S L2 sec) E i m) (hE : E = s.extract k s.size) (hsec : (B + k) / 64 = sec) (hi : (B + k) % 64 = i) (hkm : k + m ≤ n) (hm : 0 < m) (him : i + m ≤ 64) (hin : sec < S.length) (hn : n ≤ s.size) (hal : k + m < n → (B + k + m) % 64 = 0) : WrR w2 w6 N p sv lv S L B n (k + m) s := by
  subst hsec hi hE hY
  exact ⟨v2, _, hd6, hla.step hd.sizes hd.ats hkm hm him hin hn hal, hk.trans hk6⟩
/-- what Write answers -/
def AWrote (w : World) (N p : Nat) (sv lv : Value) (S : List ByteArray) (L : List (Nat × ByteArray)) (B n : Nat) (s : ByteArray) (e : Ending) (w' : World) : Prop :=
  ∃ (r : Int) (k : Nat), e = .returned (.int .i64 r) ∧ (B + n ≤ 64 * S.length → r = 0 ∧ k = n) ∧ WrR w w' N p sv lv S L B n k s
theorem awrite_bad (d : Value) (f l at' : Int) (s : ByteArray) (w : World) (hs : s.size ≤ maxLen) (hat : -9223372036854775808 ≤ at' ∧ at' ≤ 9223372036854775807) (h : withinA f l at' s.size = false) : Calls Try.prog 31 #[d, areaV f l, .int .i64 at', .string s] w fun e w' => e = .returned (.int .i64 1) ∧ Below w.heap.size w w' := by
  have c := fun w => awithin f l at' s.size w hat
  simp only [h] at c
  unfold areaV maxLen at *
  clear h hat
  go_enter Try.func31, Try.ntmps31
  go_wp2_with fail
  refine Calls.mono (c _) ?_
  rintro e w2 ⟨rfl, hb⟩
  have HB := Lib.hid (alloc_below hb)
  clear hb
  go_wp2_with fail
  go_ret
  exact ⟨rfl, HB.out⟩
set_option maxHeartbeats 3200000 in
set_option maxRecDepth 100000 in
theorem awrite (f l at' : Nat) (s : ByteArray) (w : World) (N p : Nat) (sv lv : Value) (S : List ByteArray) (L : List (Nat × ByteArray)) (hd : Dsk w N p sv lv S L) (hL : L.length + s.size ≤ 1000000) (hw : withinA f l at' s.size = true) :
    Calls Try.prog 31 #[.pointer (some ⟨p, 0, none⟩), areaV f l, .int .i64 at', .string s] w (AWrote w N p sv lv S L (64 * f + at') s.size s) := by
  obtain ⟨g1, g2, g3, g4, g5⟩ : f ≤ 4096 ∧ 1 ≤ l ∧ l ≤ 4096 ∧ at' ≤ 64 * l ∧ s.size ≤ 64 * l - at' := by
    unfold withinA at hw
    simp only [Bool.and_eq_true, decide_eq_true_eq] at hw
    obtain ⟨⟨⟨⟨h1, h2⟩, h3⟩, h4⟩, h5⟩ := hw
    have hm := (mayA_iff f l).1 h1
    unfold bytesA at h4 h5
    rw [if_pos h1] at h4 h5
    omega
  have c := fun w => awithin f l at' s.size w (by omega)
  simp only [hw] at c
  obtain ⟨n, hn⟩ : ∃ n, s.size = n := ⟨_, rfl⟩
  rw [hn] at c g5 hL
  rw [hn]
  have hnb : n ≤ 262144 := by omega
  have hab : at' ≤ 262144 := by omega
  have hE := ext_all s
  rw [hn] at hE
  have HN := Lib.hid hn
  have HE := Lib.hid hE
  have HD := Lib.hid hd
  have HBx := Lib.hid ((Below.refl w.heap.size w).alloc (Nat.le_refl _) (.cells #[.int .i64 f, .int .i64 l] 63))
  have HX := Lib.hid (heap_alloc_self w (.cells #[.int .i64 f, .int .i64 l] 63))
  have hsz : (s.size : Int) = n := by omega
  unfold areaV at *
  clear hw hn hE hd
  have hps := HD.out.lt
  go_enter Try.func31, Try.ntmps31
  go_wp2_with fail
  refine Calls.mono (c _) ?_
  rintro e w2 ⟨rfl, hb⟩
  have HX2 := Lib.hid ((hb.block w.heap.size (by simp)).trans HX.out)
  have HB2 := Lib.hid (alloc_below hb)
  have HD2 := Lib.hid (HD.out.below HB2.out)
  have hsv : some w.heap.size ≠ sv.ownBlock := fun e => by have := (HD.out.sure.lt _ e.symm).2; omega
  have hlv : some w.heap.size ≠ lv.ownBlock := fun e => by have := (HD.out.later.lt _ e.symm).2; omega
  have HK := Lib.hid (DKept.of_below (p := p) (sv := sv) (lv := lv) HD.out.le HB2.out)
  obtain ⟨q, hq⟩ : ∃ q, w.heap.size = q := ⟨_, rfl⟩
  rw [hq] at HX2 hsv hlv hps
  try rw [hq]
  clear hb c HBx HX hq HB2
  have hcell : ∀ wr lv2, DKept w2 wr N p sv lv lv2 → wr.heap[q]? = some (.cells #[.int .i64 f, .int .i64 l] 63) := fun wr lv2 hk => (hk.block q (lt_heap HX2.out) (by omega) hsv hlv).trans HX2.out
  have HC := Lib.hid hcell
  clear hcell hsv hlv
  go_wp2_with fail
  go_loopw [2, 3] (fun tv ev wr => ∃ (k R T : Nat) (E : ByteArray), k + R = n ∧ T = at' + k ∧ E = s.extract k n ∧ tv = .int .i64 T ∧ ev = .string E ∧ WrR w2 wr N p sv lv S L (64 * f + at') n k s) (fun _ ev _ => (match ev with | .string E => E.size | _ => 0))
  case atStart => exact ⟨0, n, at', s, by omega, rfl, HE.out.symm, rfl, rfl, lv, L, HD2.out, Laid.start _ _ _ _ _, DKept.refl _ _ _ _ _⟩
  case round =>
    obtain ⟨k, R, T, E, hkR, hT, hE, rfl, rfl, hrel⟩ := hrel
    have hEs : E.size = R := by rw [hE]; have := HN.out; rw [ext_sz _ _ _ (by omega)]; omega
    have hEi : (E.size : Int) = R := by omega
    have HR := Lib.hid hrel
    have HE2 := Lib.hid hE
    have HEs := Lib.hid hEs
    clear hrel hE hEs
    by_cases hlt : 0 < R
    · obtain ⟨lv2, L2, hd2, hla, hk2⟩ := HR.out.ex
      have hx := HC.out wr lv2 hk2
      have c0 : wr.cell? ⟨q, 0, none⟩ = some (.int .i64 f) := by simp [World.cell?, hx]
      have c1 : wr.cell? ⟨q, 1, none⟩ = some (.int .i64 l) := by simp [World.cell?, hx]
      have cp := fun w => apiece f l T R w (by omega) (by omega) (by omega) (by omega)
      obtain ⟨i, hi⟩ : ∃ i, T % 64 = i := ⟨_, rfl⟩
      obtain ⟨m, hm⟩ : ∃ m, min R (64 - i) = m := ⟨_, rfl⟩
      obtain ⟨sec, hsec⟩ : ∃ sec, f + T / 64 = sec := ⟨_, rfl⟩
      simp only [hi, hm, show ((f : Int) + (T : Int) / 64) = (sec : Int) by omega] at cp
      have hi1 : i < 64 := by omega
      have hm1 : i + m ≤ 64 := by omega
      have hm2 : m ≤ R := by omega
      have hm3 : 0 < m := by omega
      have hsl : sec ≤ 10000 := by omega
      have hTb : T ≤ 1000000 := by omega
      have HF := Lib.hid (And.intro hi (And.intro hm (And.intro hsec (And.intro hkR hT))))
      have HLA := Lib.hid hla
      have HD3 := Lib.hid hd2
      have HK2 := Lib.hid hk2
      have hlti : 0 < (R : Int) := by omega
      unfold areaV at cp
      clear hi hm hsec hx hla hd2 hk2 hkR hT
      go_wp2_with fail
      refine Calls.mono (cp _) ?_
      rintro e w3 ⟨rfl, hb⟩
      have HB3 := Lib.hid hb
      have HD4 := Lib.hid (HD3.out.below hb)
      clear hb cp c0 c1
      by_cases hin : sec < S.length
      · have cr := dread sec w3 N p sv lv2 S L2 HD4.out hin (by obtain ⟨M, hM, hMl, _⟩ := HLA.out.more; have := HF.out.2.2.2.1; rw [hM, List.length_append]; omega)
        have hXs := curD_size HD4.out.sizes HD4.out.ats sec hin
        obtain ⟨X, hX⟩ : ∃ X, curD S L2 sec = X := ⟨_, rfl⟩
        rw [hX] at cr hXs
        have HXX := Lib.hid hX
        have HXs := Lib.hid hXs
        have hXi : (X.size : Int) = 64 := by omega
        obtain ⟨A1, hA1⟩ : ∃ A, X.extract 0 i = A := ⟨_, rfl⟩
        obtain ⟨A2, hA2⟩ : ∃ A, E.extract 0 m = A := ⟨_, rfl⟩
        obtain ⟨A3, hA3⟩ : ∃ A, X.extract (i + m) X.size = A := ⟨_, rfl⟩
        have hA3' : X.extract (i + m) 64 = A3 := by rw [← hA3, hXs]
        obtain ⟨A4, hA4⟩ : ∃ A, E.extract m E.size = A := ⟨_, rfl⟩
        have hA4' : E.extract m R = A4 := by rw [← hA4, HEs.out]
        have s1 : A1.size ≤ 64 := by rw [← hA1, ext_sz _ _ _ (by omega)]; omega
        have s2 : A2.size ≤ 64 := by have := HEs.out; rw [← hA2, ext_sz _ _ _ (by omega)]; omega
        have s3 : A3.size ≤ 64 := by rw [← hA3', ext_sz _ _ _ (by omega)]; omega
        have k1 : ¬ 9223372036854775807 < A1.size + A2.size := by omega
        have k2 : ¬ 9223372036854775807 < A1.size + A2.size + A3.size := by omega
        have k3 : IntKind.i64.wrap ((i : Int) + (m : Int)) = (i : Int) + m := by rw [IntKind.wrap_i64]; omega
        have k4 : ((i : Int) + (m : Int)) ≤ 64 := by omega
        have k5 : ((i : Int) + (m : Int)).toNat = i + m := by omega
        have k6 : 0 ≤ ((i : Int) + (m : Int)) := by omega
        have k7 : (i : Int) ≤ 64 := by omega
        have k8 : (m : Int) ≤ R := by omega
        have k9 : 0 ≤ (i : Int) := by omega
        have k10 : 0 ≤ (m : Int) := by omega
        have hsp : A1 ++ A2 ++ A3 = spliceB X E i m := by unfold spliceB; rw [hA1, hA2, hA3']
        have hsps : (spliceB X E i m).size = 64 := splice_size X E i m hXs hm1 (by rw [HEs.out]; exact hm2)
        have HSP := Lib.hid hsp
        have HSS := Lib.hid hsps
        have hA4e := Lib.hid (show A4 = s.extract (k + m) n by
          have h1 := ext_ext s k m (by have := HF.out.2.2.2.1; have := HN.out; omega)
          have h2 := HN.out
          rw [h2] at h1
          rw [← HE2.out] at h1
          rw [← hA4]
          exact h1)
        have cw := fun (w' : World) (hb : Below w3.heap.size w3 w') => dwrite sec (A1 ++ A2 ++ A3) w' N p sv lv2 S L2 (HD4.out.below hb) hin (by rw [hsp]; omega) (by obtain ⟨M, hM, hMl, _⟩ := HLA.out.more; have := HF.out.2.2.2.1; rw [hM, List.length_append]; omega)
        have hzz : (A1 ++ A2 ++ A3) ++ zeroL (64 - (A1 ++ A2 ++ A3).size) = A1 ++ A2 ++ A3 := by
          rw [hsp, hsps]
          apply str_ext
          simp [zeroL]
        simp only [hzz] at cw
        have CW := Lib.hid cw
        clear hX hXs hsp hsps hzz cw
        go_wp2_with fail
        refine Calls.mono cr ?_
        rintro e w4 ⟨rfl, hb⟩
        have cww := CW.out
        have HB4 := Lib.hid hb
        clear hb cr
        go_upto_region 8 with fail
        go_still_tail 15, (by kernel_rfl)
        change wpList _ _ _ _ _ w4.drew
        have cwd := cww w4.drew (below_drew' HB4.out)
        have HB5 := Lib.hid (below_drew' HB4.out)
        generalize w4.drew = w5 at *
        clear cww
        go_wp2_with fail
        refine Calls.mono cwd ?_
        rintro e w6 ⟨rfl, v2, hd6, hk6⟩
        have HR6 := Lib.hid (WrR.next (n := n) (s := s) (E := E) (i := i) (m := m) HLA.out HD4.out (HK2.out.trans (DKept.of_below HD3.out.le HB3.out)) hd6 ((DKept.of_below HD4.out.le HB5.out).trans hk6) (by rw [HXX.out]; exact HSP.out) (by rw [HN.out]; exact HE2.out) (by have := HF.out; omega) (by have := HF.out; omega) (by have := HF.out; omega) hm3 hm1 hin (by rw [HN.out]; exact Nat.le_refl _) (by have := HF.out; omega))
        have HA4 := Lib.hid (show A4.size = R - m by rw [hA4e.out, ext_sz s (k + m) n (by have := HN.out; omega)]; have := HF.out.2.2.2.1; omega)
        clear hd6 hk6 CW hA1 hA2 hA3 hA3' cwd k1 k2 k3 k5
        go_wp2_with fail
        go_roundw
        case rel => exact ⟨k + m, R - m, T + m, A4, by have := HF.out; omega, by have := HF.out; omega, hA4e.out, by go_num, rfl, HR6.out⟩
        case measure => simp only; rw [HA4.out, HEs.out]; omega
      · have hv : rdI S L2 sec = ⟨#[]⟩ := by unfold rdI; rw [if_neg (by omega)]
        have hev : erI S sec = 1 := by unfold erI; rw [if_neg (by omega)]
        have cr := read_any sec w3 N p sv lv2 S L2 HD4.out (by obtain ⟨M, hM, hMl, _⟩ := HLA.out.more; have := HF.out.2.2.2.1; rw [hM, List.length_append]; omega)
        rw [hv, hev] at cr
        clear hv hev
        go_wp2_with fail
        refine Calls.mono cr ?_
        rintro e w4 ⟨rfl, hb⟩
        have HB4 := Lib.hid hb
        clear hb cr
        go_wp2_with fail
        go_ret
        exact ⟨1, k, rfl, fun h => by have := HF.out; omega, ((HR.out.below HB3.out).below HB4.out).base HK.out⟩
    · obtain rfl : R = 0 := by omega
      obtain rfl : k = n := by omega
      go_wp2_with fail
      go_ret
      exact ⟨0, k, rfl, fun _ => ⟨rfl, rfl⟩, HR.out.base HK.out⟩
end Go.Proofs.Ytcoliadgnbhkaaa
