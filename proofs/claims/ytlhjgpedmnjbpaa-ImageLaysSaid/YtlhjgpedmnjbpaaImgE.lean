/-
  image.Pack.
-/
import Derived.Test.YtlhjgpedmnjbpaaImgD
namespace Go.Proofs.Ytlhjgpedmnjbpaa
open Go.RowKit
set_option linter.unusedVariables false
set_option linter.unusedSimpArgs false

theorem bfreshB (B : Nat) (w : World) (hB : B ≤ w.heap.size) : BT B w.heap.size [] (w.alloc (.cells #[.pointer none, .slice none 0 0] 175)) :=
  .inl ⟨hB, .slice none 0 0, heap_alloc_self w _, World.ownsRow_nil _ _ _ _, by simp [Value.ownBlock]⟩
theorem plainL_next (l : List UInt8) (a o n : Nat) (ho : o ≤ a) : plainL l (a + n) (o + n) = plainL l a o ++ (l.drop a).take n := by
  unfold plainL
  rw [show a + n - (o + n) = a - o by omega, List.take_add, List.drop_append]
  by_cases h : a ≤ l.length
  · rw [show a - o - (l.take a).length = 0 by rw [List.length_take]; omega]
    rfl
  · have e : l.drop a = [] := List.drop_eq_nil_of_le (by omega)
    rw [e]
    simp
theorem pack_end (l : List UInt8) (k o : Nat) (out : List UInt8) (hk : k = l.length) (h : out ++ packL (plainL l k o) (l.drop k) = packL [] l) : out ++ flushL (plainL l l.length o) = packL [] l := by
  subst hk
  rw [List.drop_length, packL_nil] at h
  exact h
set_option maxHeartbeats 6400000 in
set_option maxRecDepth 100000 in
theorem ipack (s : ByteArray) (hs : s.size ≤ 16777216) (w : World) :
    Calls Try.prog 64 #[.string s] w fun e w' => e = .returned (.string ⟨(packL [] s.data.toList).toArray⟩) ∧ Below w.heap.size w w' := by
  obtain ⟨L, hL⟩ : ∃ L, s.data.toList = L := ⟨_, rfl⟩
  have hLs : L.length = s.size := by rw [← hL]; exact Array.length_toList
  have hR := packL_len L.length [] L (Nat.le_refl _) (by simp; omega)
  obtain ⟨R, hRe⟩ : ∃ R, packL [] L = R := ⟨_, rfl⟩
  rw [hRe] at hR
  have hRl : R.length ≤ 1000000000 := by simp at hR; omega
  rw [hL, hRe]
  have HL := Lib.hid hL
  have HLs := Lib.hid hLs
  have HR := Lib.hid hRe
  have hat : ∀ k, k < s.size → ∃ c t, L.drop k = c :: t ∧ s.data.toList.getD k 0 = c := by
    intro k hk
    refine ⟨L[k]'(by omega), L.drop (k + 1), List.drop_eq_getElem_cons (by omega), ?_⟩
    rw [hL]
    simp [List.getD, show k < L.length by omega]
  have HAT := Lib.hid hat
  have e63 : (s.size : Int) ≤ 16777216 := by omega
  clear hL hLs hR hRe hat
  -- where things lie
  have hp0 : PackAt (w.heap.size + 1) (w.heap.size + 1) (w.heap.size + 2) w.heap.size s 0 [] (((w.alloc (.cells #[.string s] 9)).alloc (.cells #[.pointer none, .slice none 0 0] 175)).alloc (.cells #[.int .i64 0] 3)) := by
    have e1 : (w.alloc (.cells #[.string s] 9)).heap.size = w.heap.size + 1 := by simp
    have hb := bfreshB (w.heap.size + 1) (w.alloc (.cells #[.string s] 9)) (by rw [e1]; exact Nat.le_refl _)
    rw [e1] at hb
    have h2 := heap_alloc_self w (.cells #[.string s] 9)
    refine ⟨hb.below ((Below.refl _ _).alloc (Nat.le_refl _) _), ?_, ?_, by omega, by omega, by omega, by omega, by simp⟩
    · have := heap_alloc_self ((w.alloc (.cells #[.string s] 9)).alloc (.cells #[.pointer none, .slice none 0 0] 175)) (.cells #[.int .i64 0] 3)
      simpa using this
    · rw [Below.heap_alloc _ _ _ (by simp; omega), Below.heap_alloc _ _ _ (by simp)]
      exact h2
  have hbel : Below w.heap.size w (((w.alloc (.cells #[.string s] 9)).alloc (.cells #[.pointer none, .slice none 0 0] 175)).alloc (.cells #[.int .i64 0] 3)) :=
    (((Below.refl _ _).alloc (Nat.le_refl _) _).alloc (by simp) _).alloc (by simp; omega) _
  have HP0 := Lib.hid hp0
  have HB0 := Lib.hid hbel
  have eg : ∀ args w, (callFunc 111 args).run Try.prog w = .ok (.enter 111 args) w := fun _ _ => by rfl
  clear hp0 hbel
  go_enter Try.func64, Try.ntmps64
  go_wp2_with fail
  generalize ((w.alloc (.cells #[.string s] 9)).alloc (.cells #[.pointer none, .slice none 0 0] 175)).alloc (.cells #[.int .i64 0] 3) = W at *
  obtain ⟨n, hn⟩ : ∃ n, w.heap.size = n := ⟨_, rfl⟩
  rw [hn] at HP0 HB0
  rw [hn]
  have HNN := Lib.hid hn
  clear hn
  go_loopw [6] (fun at' wr => ∃ (k o : Nat) (out : List UInt8), k ≤ s.size ∧ o ≤ k ∧ at' = .int .i64 k ∧ PackAt (n + 1) (n + 1) (n + 2) n s o out wr ∧ Below n w wr ∧ out ++ packL (plainL L k o) (L.drop k) = R) (fun at' _ => s.size - (intOf at').toNat)
  case atStart => exact ⟨0, 0, [], by omega, by omega, rfl, HP0.out, HB0.out, by rw [plainL_zero]; exact HR.out⟩
  case round =>
    obtain ⟨k, o, out, hk, ho, rfl, hp, hb, heq⟩ := hrel
    have HP := Lib.hid hp
    have HB := Lib.hid hb
    have HE := Lib.hid heq
    have hol : out.length ≤ 1000000000 := by have := congrArg List.length heq; simp only [List.length_append] at this; omega
    have cs : wr.cell? ⟨n, 0, none⟩ = some (.string s) := by simp [World.cell?, hp.sc]
    clear hp hb heq
    by_cases hlt : k < s.size
    · obtain ⟨c, t, hd, hc⟩ := HAT.out k hlt
      have hsk := str_at' s k hlt
      rw [hc] at hsk
      have HSK := Lib.hid hsk
      have hpos := runN_pos c t
      have hrl := runN_le (c :: t)
      have hdl : (c :: t).length = s.size - k := by rw [← hd, List.length_drop, HLs.out]
      have hcons := packL_cons (plainL L k o) c t
      obtain ⟨N, hN⟩ : ∃ N, runN (c :: t) = N := ⟨_, rfl⟩
      rw [hN] at hpos hrl hcons
      have hN2 : k + N ≤ s.size := by omega
      have hext : (s.extract k s.size).data.toList = c :: t := by
        rw [Lib.extract_data, HL.out, ← hd, List.take_of_length_le (by rw [List.length_drop, HLs.out]; omega)]
      have cr := irun c t (s.extract k s.size) hext (by rw [show (s.extract k s.size).size = (c :: t).length by rw [← hext]; exact Array.length_toList.symm]; omega)
      rw [hN] at cr
      have hdd : L.drop (k + N) = (c :: t).drop N := by rw [← hd, List.drop_drop]
      have htt : (c :: t).take N = (L.drop k).take N := by rw [hd]
      have HC := Lib.hid hcons
      have HD := Lib.hid hd
      have HDD := Lib.hid hdd
      have HTT := Lib.hid htt
      have hki : (k : Int) < (s.size : Int) := by omega
      have hsum : (k : Int) + (N : Int) = ((k + N : Nat) : Int) := by omega
      have hsum2 : (o : Int) + (N : Int) = ((o + N : Nat) : Int) := by omega
      obtain ⟨kN, hkN⟩ : ∃ kN, k + N = kN := ⟨_, rfl⟩
      obtain ⟨oN, hoN⟩ : ∃ oN, o + N = oN := ⟨_, rfl⟩
      rw [hkN] at hsum hN2
      rw [hoN] at hsum2
      have HkN := Lib.hid hkN
      have HoN := Lib.hid hoN
      have hb1 : (kN : Int) ≤ 16777216 := by omega
      have hb2 : (oN : Int) ≤ 16777216 := by omega
      have hb3 : (N : Int) ≤ 16777216 := by omega
      have hmul : (2 : Int) * (N : Int) + 1 = ((2 * N + 1 : Nat) : Int) := by omega
      obtain ⟨N2, hN2e⟩ : ∃ N2, 2 * N + 1 = N2 := ⟨_, rfl⟩
      rw [hN2e] at hmul
      have HN2 := Lib.hid hN2e
      have hN2l : (N2 : Int) ≤ 33554433 := by omega
      have hpn := putN_length N2 (by omega)
      clear hcons hd hdd htt hsk hext hkN hoN hN2e hdl hrl hN hc
      by_cases h4 : 4 ≤ N
      · have h4i : (4 : Int) ≤ (N : Int) := by omega
        have heq : ((out ++ flushL (plainL L k o)) ++ putN N2) ++ [c] ++ packL (plainL L kN 0) (L.drop kN) = R := by
          rw [plainL_zero, ← HkN.out, HDD.out, ← HE.out, HD.out, HC.out, if_pos h4, HN2.out]
          simp only [List.append_assoc]
        have hlen := congrArg List.length heq
        simp only [List.length_append, List.length_cons, List.length_nil] at hlen
        have HQ := Lib.hid heq
        obtain ⟨o1, ho1⟩ : ∃ o1, out ++ flushL (plainL L k o) = o1 := ⟨_, rfl⟩
        rw [ho1] at HQ
        have ho1l : o1.length + (putN N2).length + 1 ≤ 1000000000 := by rw [← ho1]; simp only [List.length_append]; omega
        have HO1 := Lib.hid ho1
        clear heq ho1 hlen
        go_wp2_with fail
        refine Calls.mono (cr _) ?_
        rintro e w1 ⟨rfl, q, rfl⟩
        have HP1 := Lib.hid (HP.out.kept (BKept.of_below (below_drewN' (Below.refl _ _) q) HP.out.size) (HP.out.bt.below (below_drewN' (Below.refl _ _) q)))
        have HB1 := Lib.hid (below_drewN' HB.out q)
        go_wp2_with fail
        refine Calls.mono (pflush _ _ _ _ s k o out _ HP1.out ho (by omega) hs (by omega)) ?_
        rintro e w2 ⟨rfl, hp2, hb2'⟩
        rw [HL.out, HO1.out] at hp2
        have HP2 := Lib.hid hp2
        have HB2 := Lib.hid (HB1.out.trans (hb2'.mono (by omega)))
        clear hp2 hb2' cs
        go_wp2_with fail
        refine Calls.mono (put_nat N2 w2 (by omega)) ?_
        rintro e w3 ⟨rfl, hb3'⟩
        have HP3 := Lib.hid (HP2.out.kept (BKept.of_below hb3' HP2.out.size) (HP2.out.bt.below hb3'))
        have HB3 := Lib.hid (HB2.out.trans (hb3'.mono (by have := HP2.out.size; omega)))
        clear hb3'
        go_wp2_with fail
        refine Calls.mono (bwriteK _ _ o1 _ w3 HP3.out.bt (by simp [ByteArray.size]; omega) HP3.out.size) ?_
        rintro e w4 ⟨rfl, hbt4, hk4⟩
        have HP4 := Lib.hid (HP3.out.kept hk4 hbt4)
        have HB4 := Lib.hid (HB3.out.trans (hk4.below.mono (by omega)))
        have cs4 : w4.cell? ⟨n, 0, none⟩ = some (.string s) := by simp [World.cell?, HP4.out.sc]
        clear hbt4 hk4
        go_wp2_with fail
        rw [HSK.out]
        refine Calls.mono (bwbyteK _ _ _ c w4 HP4.out.bt (by simp; omega) HP4.out.size) ?_
        rintro e w5 ⟨rfl, hbt5, hk5⟩
        have HP5 := Lib.hid (HP4.out.kept hk5 hbt5)
        have HB5 := Lib.hid (HB4.out.trans (hk5.below.mono (by omega)))
        clear hbt5 hk5
        go_wp2_with fail
        go_roundw
        case rel => exact ⟨kN, 0, _, by omega, by omega, rfl, HP5.out, HB5.out, HQ.out⟩
        case measure => simp [intOf]; omega
      · have h4i : (N : Int) < (4 : Int) := by omega
        have heq : out ++ packL (plainL L kN oN) (L.drop kN) = R := by
          rw [← HkN.out, ← HoN.out, plainL_next L k o N ho, HDD.out, ← HTT.out, ← HE.out, HD.out, HC.out, if_neg h4]
        have HQ := Lib.hid heq
        clear heq
        go_wp2_with fail
        refine Calls.mono (cr _) ?_
        rintro e w1 ⟨rfl, q, rfl⟩
        have HP1 := Lib.hid (HP.out.kept (BKept.of_below (below_drewN' (Below.refl _ _) q) HP.out.size) (HP.out.bt.below (below_drewN' (Below.refl _ _) q)))
        have HB1 := Lib.hid (below_drewN' HB.out q)
        have co : (wr.drewN q).cell? ⟨n + 2, 0, none⟩ = some (.int .i64 o) := by have := HP.out.oc; simp [World.cell?, this]
        have fo : (wr.drewN q).frozen? ⟨n + 2, 0, none⟩ = false := by have := HP.out.oc; simp [World.frozen?, this]
        clear cs
        go_wp2_with fail
        go_roundw
        case rel => exact ⟨kN, oN, out, by omega, by have := HkN.out; have := HoN.out; omega, rfl, HP1.out.set oN, HB1.out.setCell (p := ⟨n + 2, 0, none⟩) (by show n ≤ n + 2; omega) _, HQ.out⟩
        case measure => simp [intOf]; omega
    · have hkn : k = s.size := by omega
      have hfin := pack_end L k o out (by rw [HLs.out]; exact hkn) (HE.out.trans HR.out.symm)
      rw [HLs.out, HR.out] at hfin
      subst hkn
      have HF := Lib.hid hfin
      clear hfin
      go_wp2_with fail
      refine Calls.mono (pflush _ _ _ _ s s.size o out _ HP.out ho (by omega) hs (by omega)) ?_
      rintro e w2 ⟨rfl, hp2, hb2'⟩
      rw [HL.out, HF.out] at hp2
      have HP2 := Lib.hid hp2
      have HB2 := Lib.hid (HB.out.trans (hb2'.mono (by omega)))
      clear hp2 hb2'
      go_wp2_with fail
      refine Calls.mono (bstring _ _ R w2 HP2.out.bt HP2.out.size) ?_
      rintro e w3 ⟨rfl, hb3'⟩
      have HB3 := Lib.hid (HB2.out.trans (hb3'.mono (by have := HP2.out.size; omega)))
      clear hb3'
      go_wp2_with fail
      go_ret
      exact ⟨rfl, by rw [HNN.out]; exact HB3.out⟩
end Go.Proofs.Ytlhjgpedmnjbpaa
