/-
  SuperPlays.
-/
import Derived.Test.YtcoliadgnbhkaaaSuperK
namespace Go.Proofs.Ytcoliadgnbhkaaa
open Go.RowKit
set_option linter.unusedVariables false
set_option linter.unusedSimpArgs false

theorem zero_pair : Pair (zeroL 64) (zeroL 64) 0 ⟨#[]⟩ 0 :=
  ⟨zeroL_size 64, zeroL_size 64, by decide, fun _ => ⟨whole_zero, whole_zero, rfl⟩, fun h => absurd rfl h, fun h => by omega⟩
theorem fresh_pdsk {w : World} {N p n : Nat} {sv : Value} (h : Dsk w N p sv (.slice none 0 0) (freshS n) []) (hn : 2 ≤ n) : PDsk w N p sv (freshS n) (zeroL 64) (zeroL 64) 0 ⟨#[]⟩ 0 :=
  ⟨h, by simp [freshS, show 0 < n by omega], by simp [freshS, show 1 < n by omega], zero_pair, by omega⟩
/-- what the loop keeps -/
structure PlayR (w wr : World) (p i : Nat) (sv : Value) (S : List ByteArray) (a b : ByteArray) (at' : Nat) (last : ByteArray) : Prop where
  pd : PDsk wr w.heap.size p sv S a b at' last (16777218 + 2 * i)
  below : Below w.heap.size w wr
theorem POut.play {w w' : World} {p at' i n : Nat} {sv : Value} {last s : ByteArray} {sure : Prop} (h : POut w' w.heap.size p sv at' last (16777218 + 2 * i) n s sure) (hb : Below w.heap.size w w') :
    (∃ S' a' b', PlayR w w' p (i + 1) sv S' a' b' n (padS s)) ∨ ¬ sure ∧ ∃ S' a' b', PlayR w w' p (i + 1) sv S' a' b' at' last := by
  obtain ⟨S', a', b', hp | ⟨hs, hp⟩⟩ := h
  · exact .inl ⟨S', a', b', hp, hb⟩
  · exact .inr ⟨hs, S', a', b', hp, hb⟩
/-- a text of a slice of texts that came in -/
theorem str_at {w wr : World} {a : Option Addr} {len cap : Nat} (h : Fits w (.slice .str) [.slice a len cap]) (hb : Below w.heap.size w wr) (i : Nat) (hi : i < len) : ∃ b off s, a = some ⟨b, off, none⟩ ∧ wr.cell? ⟨b, off + i, none⟩ = some (.string s) ∧ s.size ≤ maxLen := by
  obtain ⟨_, _, h0 | ⟨b, off, rfl, hlt, hc⟩⟩ := h.slice
  · omega
  · obtain ⟨ys, _, hy, s, rfl, hs⟩ := hc i hi
    refine ⟨b, off, s, rfl, ?_, hs⟩
    have := hy 0 (.string s) rfl
    rw [show Sh.size .str = 1 from rfl, Nat.mul_one, Nat.add_zero] at this
    exact (hb.cell (p := ⟨b, off + i, none⟩) hlt).trans this
theorem u64_at {w wr : World} {a : Option Addr} {len cap : Nat} (h : Fits w (.slice (.int .u64)) [.slice a len cap]) (hb : Below w.heap.size w wr) (i : Nat) (hi : i < len) : ∃ b off x, a = some ⟨b, off, none⟩ ∧ wr.cell? ⟨b, off + i, none⟩ = some (.int .u64 (x : Nat)) ∧ x < 18446744073709551616 := by
  obtain ⟨_, _, h0 | ⟨b, off, rfl, hlt, hc⟩⟩ := h.slice
  · omega
  · obtain ⟨ys, _, hy, z, rfl, hz⟩ := hc i hi
    obtain ⟨x, rfl, hx⟩ := wf_u64 hz
    refine ⟨b, off, x, rfl, ?_, hx⟩
    have := hy 0 (.int .u64 (x : Nat)) rfl
    rw [show Sh.size (.int .u64) = 1 from rfl, Nat.mul_one, Nat.add_zero] at this
    exact (hb.cell (p := ⟨b, off + i, none⟩) hlt).trans this
theorem slice_len {w : World} {a : Option Addr} {len cap : Nat} {s : Sh} (h : Fits w (.slice s) [.slice a len cap]) : len ≤ 9223372036854775807 := by
  have := h.slice
  unfold maxLen at this
  omega
set_option maxHeartbeats 6400000 in
set_option maxRecDepth 100000 in
theorem superplays_law (a0 : Option Addr) (len0 cap0 : Nat) (a1 : Option Addr) (len1 cap1 : Nat) (from' : Int) (w : World) (f0 : Fits w (.slice .str) [.slice a0 len0 cap0]) (f1 : Fits w (.slice (.int .u64)) [.slice a1 len1 cap1]) (hfr : (Lit.int .u64 from').wf = true) :
    Calls Try.prog 7 #[.slice a0 len0 cap0, .slice a1 len1 cap1, .int .u64 from'] w fun e w' => e = .returned (.bool true) ∧ Below w.heap.size w w' := by
  obtain ⟨x, rfl, hx⟩ := wf_u64 hfr
  have hm : bits .and .u64 (x : Int) 16777215 = ((x % 2 ^ 24 : Nat) : Int) := mask_u64 x 24 16777215 (by decide) (by decide) hx
  obtain ⟨A, hA⟩ : ∃ A, x % 2 ^ 24 = A := ⟨_, rfl⟩
  have hAl : A < 16777216 := by omega
  rw [hA] at hm
  have hl0 := slice_len f0
  have hl1 := slice_len f1
  have F0 := Lib.hid f0
  have F1 := Lib.hid f1
  have ca := fun w => awake05 w
  have cn := dnew 3 w (by omega) (by omega)
  clear hfr hx hA f0 f1
  go_enter Try.func7, Try.ntmps7
  go_wp2_with fail
  refine Calls.mono cn ?_
  rintro e w1 ⟨p, sv, rfl, hd, hb⟩
  have HP := Lib.hid (fresh_pdsk hd (by omega))
  have HB := Lib.hid hb
  clear hd hb cn
  have hfirst : (⟨#[102, 105, 114, 115, 116]⟩ : ByteArray).size ≤ 48 := by decide
  go_upto_if 25 with fail
  go_cut [10] (fun lv wx => ∃ S a b last, lv = .string last ∧ PlayR w wx p 0 sv S a b A last)
  case first =>
    by_cases hA0 : A = 0
    · subst hA0
      go_wp2_with fail
      go_meet
      exact ⟨_, _, _, _, rfl, ⟨HP.out.dsk, HP.out.s0, HP.out.s1, HP.out.pair.more (by omega), by omega⟩, HB.out⟩
    · have hA1 : 0 < (A : Int) := by omega
      have cw := swrite 0 A ⟨#[102, 105, 114, 115, 116]⟩ _ _ _ _ _ _ _ HP.out.dsk (by simp) hA0 (by omega) hfirst (by omega) (by rw [freshS_length]; omega)
      have cwd := fun w => sword ⟨#[102, 105, 114, 115, 116]⟩ w hfirst
      go_wp2_with fail
      refine Calls.mono cw ?_
      rintro e w2 ⟨rfl, v2, hd, hk⟩
      rw [List.nil_append, Nat.zero_add] at hd
      have HW := Lib.hid (show PWr w2 w.heap.size p sv v2 (freshS 3) (zeroL 64) (zeroL 64) 0 ⟨#[]⟩ A A ⟨#[102, 105, 114, 115, 116]⟩ from ⟨hd, HP.out.s0, HP.out.s1, HP.out.pair.more (by omega), by omega, Nat.lt_of_le_of_lt HP.out.pair.most (by omega), by omega, fun h => by omega, hfirst⟩)
      have HB2 := Lib.hid (HB.out.trans hk.below)
      clear hd hk cw HB
      go_wp2_with fail
      refine Calls.mono (cwd _) ?_
      rintro e w3 ⟨rfl, hb⟩
      have HB3 := Lib.hid (below_trans HB2.out hb HB2.out.size)
      have h := HW.out
      have HW3 := Lib.hid (show PWr w3 w.heap.size p sv v2 (freshS 3) (zeroL 64) (zeroL 64) 0 ⟨#[]⟩ A A ⟨#[102, 105, 114, 115, 116]⟩ from ⟨h.dsk.below hb, h.s0, h.s1, h.pair, h.small, h.gt, h.le, h.other, h.word⟩)
      have cs := psync HW3.out (by omega)
      clear hb h HW HB2 cwd
      go_wp2_with fail
      refine Calls.mono cs ?_
      rintro e w4 ⟨rfl, ⟨S', a', b', hp⟩, hb⟩
      have hp2 := hp.resolve_right (fun h => h.1 trivial)
      have HB4 := Lib.hid (HB3.out.trans hb)
      go_wp2_with fail
      go_meet
      exact ⟨S', a', b', _, rfl, ⟨hp2.dsk, hp2.s0, hp2.s1, hp2.pair.more (by omega), by omega⟩, HB4.out⟩
  case rest =>
    obtain ⟨S0, x0, y0, last0, rfl, hpl⟩ := hcut
    have HPL := Lib.hid hpl
    clear hpl
    go_wp2_with fail
    go_loopw [9, 10, 11] (fun atv lastv iv wr => ∃ (i : Nat) (S : List ByteArray) (a b last : ByteArray) (at' : Nat), i ≤ len0 ∧ i ≤ 30 ∧ iv = .int .i64 i ∧ atv = .int .u64 at' ∧ lastv = .string last ∧ PlayR w wr p i sv S a b at' last) (fun _ _ iv _ => 30 - (intOf iv).toNat)
    case atStart => exact ⟨0, S0, x0, y0, last0, A, by omega, by omega, rfl, rfl, rfl, HPL.out⟩
    case round =>
      obtain ⟨i, S, a, b, last, at', hi0, hi30, rfl, rfl, rfl, hr⟩ := hrel
      have HR := Lib.hid hr
      clear hr HPL
      by_cases hc : i < len0 ∧ i < 30
      · obtain ⟨hc1, hc2⟩ := hc
        obtain ⟨bb, off, s, rfl, hcell, hs⟩ := str_at F0.out HR.out.below i hc1
        obtain ⟨t, E, t1, t2, t3, t4, t5⟩ := cut48 s hs
        unfold maxLen at hs
        have cN := fun (w' : World) (hb : Below wr.heap.size wr w') => pnext (HR.out.pd.below hb)
        have cL := fun (w' : World) (hb : Below wr.heap.size wr w') => plnext (HR.out.pd.below hb)
        have cW := fun (w' : World) (hb : Below wr.heap.size wr w') => pwrite (HR.out.pd.below hb) E t5
        have hgt := nextP_gt a b at'
        have hle := HR.out.pd.pair.at_le
        obtain ⟨n, hn⟩ : ∃ n, nextP a b at' = n := ⟨_, rfl⟩
        rw [hn] at hgt
        simp only [hn] at cN cL cW
        have CN := Lib.hid cN
        have hatn : at' < n := by omega
        have CL := Lib.hid cL
        have CW := Lib.hid cW
        clear hn hgt hle cL cW cN
        have hn1 : ((n : Int) == (n : Int)) = true := by simp
        go_upto_region 11 with fail
        go_quiet (fail)
        have hb1 : Below wr.heap.size wr (wr.drewN nq) := below_drewN' (Below.refl _ _) nq
        have c := CN.out _ hb1
        have HB1 := Lib.hid hb1
        generalize wr.drewN nq = W1 at *
        clear hb1 CN hcell hs t1 t2 t3 t4
        go_wp2_with fail
        refine Calls.mono c ?_
        rintro e w2 ⟨rfl, hb⟩
        have hb2 := below_trans HB1.out hb HB1.out.size
        have HB2 := Lib.hid hb2
        have c2 := CL.out _ hb2
        clear hb hb2 c CL HB1
        go_wp2_with fail
        refine Calls.mono c2 ?_
        rintro e w3 ⟨rfl, hb⟩
        have hb2 := below_trans HB2.out hb HB2.out.size
        have HB3 := Lib.hid hb2
        have c3 := CW.out _ hb2
        clear hb hb2 c2 CW HB2
        go_wp2_with fail
        refine Calls.mono c3 ?_
        rintro e w4 ⟨rfl, lv, hpw, hb⟩
        have HW := Lib.hid hpw
        have HB4 := Lib.hid ((HR.out.below.trans (HB3.out.mono HR.out.below.size)).trans hb)
        clear hpw hb c3 HB3
        have cwd := fun w => sword E w t5
        obtain ⟨P, hP⟩ : ∃ P, padS E = P := ⟨_, rfl⟩
        simp only [hP] at cwd
        have HPE := Lib.hid hP
        have hnat : ((n : Int) == (at' : Int)) = false := by simp; omega
        have hnat2 : ((at' : Int) == (n : Int)) = false := by simp; omega
        have hn0 : 0 < n := by omega
        clear hP
        by_cases hlen : i < len1
        · obtain ⟨bb1, off1, u, rfl, hcell, hu⟩ := u64_at F1.out HB4.out i hlen
          have hmu : bits .and .u64 (u : Int) 3 = ((u % 2 ^ 2 : Nat) : Int) := mask_u64 u 2 3 (by decide) (by decide) hu
          obtain ⟨f, hf⟩ : ∃ f, u % 2 ^ 2 = f := ⟨_, rfl⟩
          rw [hf] at hmu
          have hg : ¬ (len1 : Int) ≤ i := by omega
          by_cases hf0 : f = 0
          · subst hf0
            have cs := psync HW.out (by omega)
            clear hf
            go_wp2_with fail
            refine Calls.mono cs ?_
            rintro e w5 ⟨rfl, ho, hb⟩
            have HB5 := Lib.hid (HB4.out.trans hb)
            have HO := Lib.hid (ho.play HB5.out)
            clear ho hb cs hcell
            obtain ⟨S', a', b', hp⟩ := HO.out.resolve_right (fun h => h.1 trivial)
            have HP2 := Lib.hid hp
            have cr := pread hp.pd
            rw [HPE.out] at cr
            simp only [hn0, decide_true] at cr
            clear hp
            go_wp2_with fail
            refine Calls.mono cr ?_
            rintro e w6 ⟨rfl, hb⟩
            have HB6 := Lib.hid hb
            clear hb cr
            go_wp2_with fail
            refine Calls.mono (cwd _) ?_
            rintro e w7 ⟨rfl, hb⟩
            have HB7 := Lib.hid (below_trans HB6.out hb HB6.out.size)
            clear hb cwd
            go_wp2_with fail
            go_roundw
            case rel => exact ⟨i + 1, S', a', b', padS E, n, by omega, by omega, by go_num, rfl, by rw [HPE.out], ⟨HP2.out.pd.below HB7.out, HP2.out.below.trans (HB7.out.mono HP2.out.below.size)⟩⟩
            case measure => simp [intOf]; omega
          · have hf1 : ((f : Int) == 0) = false := by simpa using hf0
            have cs := pcrash HW.out (by omega) (u / 4) (by omega)
            rw [show ((u / 4 : Nat) : Int) = (u : Int) / 4 by omega] at cs
            clear hf hf0
            go_wp2_with fail
            refine Calls.mono cs ?_
            rintro e w5 ⟨rfl, ho, hb⟩
            have HB5 := Lib.hid (HB4.out.trans hb)
            have HO := Lib.hid (ho.play HB5.out)
            clear ho hb cs hcell
            rcases HO.out with ⟨S', a', b', hp⟩ | ⟨_, S', a', b', hp⟩
            · have HP2 := Lib.hid hp
              have cr := pread hp.pd
              rw [HPE.out] at cr
              simp only [hn0, decide_true] at cr
              clear hp
              go_wp2_with fail
              refine Calls.mono cr ?_
              rintro e w6 ⟨rfl, hb⟩
              have HB6 := Lib.hid hb
              clear hb cr
              go_wp2_with fail
              refine Calls.mono (cwd _) ?_
              rintro e w7 ⟨rfl, hb⟩
              have HB7 := Lib.hid (below_trans HB6.out hb HB6.out.size)
              clear hb cwd
              go_wp2_with fail
              go_roundw
              case rel => exact ⟨i + 1, S', a', b', padS E, n, by omega, by omega, by go_num, rfl, by rw [HPE.out], ⟨HP2.out.pd.below HB7.out, HP2.out.below.trans (HB7.out.mono HP2.out.below.size)⟩⟩
              case measure => simp [intOf]; omega
            · have HP2 := Lib.hid hp
              have cr := pread hp.pd
              clear hp
              by_cases h0 : 0 < at'
              · have h0i : 0 < (at' : Int) := by omega
                simp only [h0, decide_true] at cr
                go_wp2_with fail
                refine Calls.mono cr ?_
                rintro e w6 ⟨rfl, hb⟩
                have HB6 := Lib.hid hb
                clear hb cr
                go_wp2_with fail
                go_roundw
                case rel => exact ⟨i + 1, S', a', b', last, at', by omega, by omega, by go_num, rfl, rfl, ⟨HP2.out.pd.below HB6.out, HP2.out.below.trans (HB6.out.mono HP2.out.below.size)⟩⟩
                case measure => simp [intOf]; omega
              · have h0i : ¬ 0 < (at' : Int) := by omega
                simp only [h0, decide_false] at cr
                go_wp2_with fail
                refine Calls.mono cr ?_
                rintro e w6 ⟨rfl, hb⟩
                have HB6 := Lib.hid hb
                clear hb cr
                go_wp2_with fail
                go_roundw
                case rel => exact ⟨i + 1, S', a', b', last, at', by omega, by omega, by go_num, rfl, rfl, ⟨HP2.out.pd.below HB6.out, HP2.out.below.trans (HB6.out.mono HP2.out.below.size)⟩⟩
                case measure => simp [intOf]; omega
        · have hg : (len1 : Int) ≤ i := by omega
          have cs := psync HW.out (by omega)
          go_wp2_with fail
          refine Calls.mono cs ?_
          rintro e w5 ⟨rfl, ho, hb⟩
          have HB5 := Lib.hid (HB4.out.trans hb)
          have HO := Lib.hid (ho.play HB5.out)
          clear ho hb cs
          obtain ⟨S', a', b', hp⟩ := HO.out.resolve_right (fun h => h.1 trivial)
          have HP2 := Lib.hid hp
          have cr := pread hp.pd
          rw [HPE.out] at cr
          simp only [hn0, decide_true] at cr
          clear hp
          go_wp2_with fail
          refine Calls.mono cr ?_
          rintro e w6 ⟨rfl, hb⟩
          have HB6 := Lib.hid hb
          clear hb cr
          go_wp2_with fail
          refine Calls.mono (cwd _) ?_
          rintro e w7 ⟨rfl, hb⟩
          have HB7 := Lib.hid (below_trans HB6.out hb HB6.out.size)
          clear hb cwd
          go_wp2_with fail
          go_roundw
          case rel => exact ⟨i + 1, S', a', b', padS E, n, by omega, by omega, by go_num, rfl, by rw [HPE.out], ⟨HP2.out.pd.below HB7.out, HP2.out.below.trans (HB7.out.mono HP2.out.below.size)⟩⟩
          case measure => simp [intOf]; omega
      · have HB6 := Lib.hid HR.out.below
        by_cases hc1 : i < len0
        · have hc2 : ¬ i < 30 := fun h => hc ⟨hc1, h⟩
          clear hc
          go_wp2_with fail
          refine Calls.mono (ca _) ?_
          rintro e w5 ⟨rfl, hb⟩
          have HB5 := Lib.hid (below_trans HB6.out hb HB6.out.size)
          clear hb
          go_wp2_with fail
          go_ret
          exact ⟨rfl, HB5.out⟩
        · clear hc
          go_wp2_with fail
          refine Calls.mono (ca _) ?_
          rintro e w5 ⟨rfl, hb⟩
          have HB5 := Lib.hid (below_trans HB6.out hb HB6.out.size)
          clear hb
          go_wp2_with fail
          go_ret
          exact ⟨rfl, HB5.out⟩
end Go.Proofs.Ytcoliadgnbhkaaa
