/-
  flat: the waking call of layer 35; both memories tell the same of whatever is asked for.
-/
import Derived.Test.YtodjlaapmbnahaaFltI
import Derived.Test.YtodjlaapmbnahaaElts
namespace Go.Proofs.Ytodjlaapmbnahaa
open Go.RowKit
set_option linter.unusedVariables false
set_option linter.unusedSimpArgs false

/-- what both tell of something that is asked for, and what is there behind it -/
def BothP (L : List ByteArray) (W A Ln : Int) (D : ByteArray) (S : Bool) (OK : Bool) (E : Int) (OUT : ByteArray) (L' : List ByteArray) : Prop :=
  (∀ p cap w, VAt p cap L w → Calls Try.prog 18 #[.agg #[.slice (some ⟨p, 0, none⟩) L.length cap], .agg (askA W A Ln D S)] w fun ev w' => ∃ p' cap', ev = .returned (.tuple #[.agg #[.slice (some ⟨p', 0, none⟩) L.length cap'], .string OUT, .bool OK]) ∧ VAt p' cap' L' w' ∧ (p' = p ∨ w.heap.size ≤ p') ∧ Below w.heap.size w w') ∧
  (∀ b g i w, FlatAt b g L w → Calls Try.prog 23 #[.pointer (some ⟨b, 0, none⟩), .int .i64 i, .agg (askA W A Ln D S)] w fun ev w' => ev = .returned (.agg (replyA i E OUT)) ∧ FlatAt b g L' w' ∧ Only g w w')
theorem both (L : List ByteArray) (W A Ln : Int) (D : ByteArray) (S : Bool) (hA : (Lit.int .i64 A).wf = true) (hLn : (Lit.int .i64 Ln).wf = true) (hD : D.size ≤ maxLen) (hB : Blks L) (hn : L.length ≤ 64) (hn0 : 0 < L.length) :
    ∃ OK E OUT L', Blks L' ∧ L'.length = L.length ∧ ((OK = true ∧ E = 0) ∨ (OK = false ∧ E = 1)) ∧ OUT.size ≤ 128 ∧ BothP L W A Ln D S OK E OUT L' := by
  by_cases hm : AskMay W A Ln D L.length
  · by_cases h3 : W = 3
    · subst h3
      refine ⟨true, 0, ⟨#[]⟩, L, hB, rfl, .inl ⟨rfl, rfl⟩, by decide, fun p cap w h => ?_, fun b g i w h => ?_⟩
      · refine (rdo p cap L 3 A Ln 0 0 D S w h hA hLn hD hB hn hn0 hm (by simp) (fun _ => rfl) (fun h => absurd rfl h)).mono ?_
        rintro ev w' ⟨p', cap', h1, h2, h3, h4⟩
        exact ⟨p', cap', h1, h2, .inr h3, h4⟩
      · have hc := fdo_no b g L i 3 A Ln D S w hA hLn hD hB hn h (.inl rfl)
        rw [if_pos hm] at hc
        refine hc.mono ?_
        rintro ev w' ⟨h1, h2⟩
        exact ⟨h1, h.below h2 h.lt.1 h.lt.2, only_flat h2⟩
    · have hin : 0 ≤ W ∧ W ≤ 2 ∧ Inside A (askSz W Ln D) L.length := hm.elim (fun h => absurd h h3) id
      have h2 := hin.2.2
      obtain ⟨q, hq⟩ : ∃ q : Nat, A = ((32 * q : Nat) : Int) := ⟨(A / 32).toNat, by unfold Inside at h2; omega⟩
      obtain ⟨m, hz⟩ : ∃ m : Nat, askSz W Ln D = ((32 * m : Nat) : Int) := ⟨(askSz W Ln D / 32).toNat, by unfold Inside at h2; omega⟩
      have hqm : q + m ≤ L.length ∧ m ≤ 4 := by rw [hq, hz] at h2; unfold Inside at h2; omega
      have hW : W = 0 ∨ W = 1 ∨ W = 2 := by omega
      have hdz : W = 1 → D.size = 32 * m := by
        intro h; rw [askSz, if_pos h] at hz; omega
      subst hq
      refine ⟨true, 0, ⟨(outL W q L m).toArray⟩, doL W q D L m, doL_blks hB hdz hW m (Nat.le_refl _), doL_len _ _ _ _ _, .inl ⟨rfl, rfl⟩, ?_, fun p cap w h => ?_, fun b g i w h => ?_⟩
      · show (outL W q L m).toArray.size ≤ 128
        rw [List.size_toArray]
        have := outL_len (W := W) hB hqm.1 m (Nat.le_refl _)
        omega
      · refine (rdo p cap L W _ Ln q m D S w h hA hLn hD hB hn hn0 hm (by omega) (fun h => absurd h h3) (fun _ => ⟨rfl, hz⟩)).mono ?_
        rintro ev w' ⟨p', cap', h1, h2, h3, h4⟩
        exact ⟨p', cap', h1, h2, .inr h3, h4⟩
      · exact fdo b g L i W Ln q m D S w hLn hD hB hn h hW hm hz
  · refine ⟨false, 1, ⟨#[]⟩, L, hB, rfl, .inr ⟨rfl, rfl⟩, by decide, fun p cap w h => ?_, fun b g i w h => ?_⟩
    · refine (rdo_no p cap L W A Ln D S w hA hLn hD hn hm).mono ?_
      rintro ev w' ⟨h1, h2⟩
      exact ⟨p, cap, h1, h.below h2, .inl rfl, h2⟩
    · have hc := fdo_no b g L i W A Ln D S w hA hLn hD hB hn h (.inr hm)
      rw [if_neg hm] at hc
      refine hc.mono ?_
      rintro ev w' ⟨h1, h2⟩
      exact ⟨h1, h.below h2 h.lt.1 h.lt.2, only_flat h2⟩
def aw35 : ByteArray := ⟨#[48, 49, 50, 51, 52, 53, 54, 55, 56, 57, 97, 98, 99, 100, 101, 102, 48, 49, 50, 51, 52, 53, 54, 55, 56, 57, 97, 98, 99, 100, 101, 102]⟩
theorem aw35_out : (⟨(outL 0 1 (doL 1 1 aw35 [zeroL 32, zeroL 32] 1) 1).toArray⟩ : ByteArray) = aw35 := by decide +kernel
theorem aw35_blks : Blks (doL 1 1 aw35 [zeroL 32, zeroL 32] 1) := doL_blks (m := 1) (fun s hs => by simp at hs; rw [hs]; rfl) (fun _ => rfl) (by decide) 1 (Nat.le_refl _)
set_option maxHeartbeats 1600000 in
set_option maxRecDepth 100000 in
theorem awake35 (w : World) : Calls Try.prog 9 #[] w fun e w' => e = .returned (.bool true) ∧ Below w.heap.size w w' := by
  have cN : Calls Try.prog 22 #[.int .i64 2] w (FNewP 2 w) := fnew 2 w (by decide) (by decide)
  have cD := fun b g w h => fdo b g [zeroL 32, zeroL 32] 1 1 0 1 1 aw35 false w (by decide) (by decide) (fun s hs => by simp at hs; rw [hs]; rfl) (by decide) h (by decide) (by decide) (by decide)
  have cR := fun b g w h => fdo b g (doL 1 1 aw35 [zeroL 32, zeroL 32] 1) 2 0 32 1 1 ⟨#[]⟩ false w (by decide) (by decide) aw35_blks (by decide) h (by decide) (by decide) (by decide)
  unfold FDoP askA replyA at cD cR
  rw [aw35_out] at cR
  rw [outL_none (by decide)] at cD
  obtain ⟨L1, hL1⟩ : ∃ L1, doL 1 1 aw35 [zeroL 32, zeroL 32] 1 = L1 := ⟨_, rfl⟩
  rw [hL1] at cR cD
  obtain ⟨AW, hAW⟩ : ∃ AW, aw35 = AW := ⟨_, rfl⟩
  rw [hAW] at cD cR
  have CD := Lib.hid cD
  have CR := Lib.hid cR
  clear hL1 cD cR
  have hAW' : (⟨#[48, 49, 50, 51, 52, 53, 54, 55, 56, 57, 97, 98, 99, 100, 101, 102, 48, 49, 50, 51, 52, 53, 54, 55, 56, 57, 97, 98, 99, 100, 101, 102]⟩ : ByteArray) = AW := hAW
  go_enter Try.func9, Try.ntmps9
  go_wp2_with fail
  refine Calls.mono cN ?_
  rintro e w2 ⟨b, g, rfl, hf, h1, h2, hb2⟩
  have cd := CD.out b g w2 hf
  clear CD cN
  go_wp2_with fail
  refine Calls.mono cd ?_
  rintro e w3 ⟨rfl, hf3, ho3⟩
  clear cd
  have hl := hf.lt
  have hs3 := ho3.size
  have r3 := heap_alloc_self w3 (.cells #[.int .i64 1, .int .i64 0, .string ⟨#[]⟩] 52)
  have b3 : Below w3.heap.size w3 (w3.alloc (.cells #[.int .i64 1, .int .i64 0, .string ⟨#[]⟩] 52)) := (Below.refl _ _).alloc (Nat.le_refl _) _
  have hf4 := hf3.below b3 hf3.lt.1 hf3.lt.2
  have H := Lib.hid (And.intro r3 (And.intro hf4 (And.intro (hb2.trans ((ho3.below h2 hb2.size).trans (b3.mono (by have := hb2.size; omega)))) (show g < w3.heap.size ∧ w.heap.size ≤ g from ⟨by omega, h2⟩))))
  clear r3 b3 hf4 hf3 ho3 hf hl hs3 hb2 h1 h2
  go_upto_region 3 with fail
  generalize w3.alloc (.cells #[.int .i64 1, .int .i64 0, .string ⟨#[]⟩] 52) = w4 at *
  obtain ⟨X, hX⟩ : ∃ X, w3.heap.size = X := ⟨_, rfl⟩
  rw [hX] at H
  try rw [hX]
  clear hX
  have cr := CR.out b g w4 H.out.2.1
  clear CR
  go_wp2_with fail
  refine Calls.mono cr ?_
  rintro e w5 ⟨rfl, hf5, ho5⟩
  have x5 := (ho5.block X (lt_heap H.out.1) (by have := H.out.2.2.2.1; omega)).trans H.out.1
  have r5 := heap_alloc_self w5 (.cells #[.int .i64 2, .int .i64 0, .string AW] 52)
  have b5 : Below w5.heap.size w5 (w5.alloc (.cells #[.int .i64 2, .int .i64 0, .string AW] 52)) := (Below.refl _ _).alloc (Nat.le_refl _) _
  have x6 := below_at b5 (lt_heap x5) x5
  have HB := Lib.hid ((H.out.2.2.1.trans (ho5.below H.out.2.2.2.2 H.out.2.2.1.size)).trans (b5.mono (Nat.le_trans H.out.2.2.1.size ho5.size)))
  clear b5 x5 hf5 ho5 H cr
  go_upto_region 4 with fail
  generalize w5.alloc (.cells #[.int .i64 2, .int .i64 0, .string AW] 52) = w6 at *
  obtain ⟨Y, hY⟩ : ∃ Y, w5.heap.size = Y := ⟨_, rfl⟩
  rw [hY] at r5
  try rw [hY]
  have k1 := cell_atF x6 1 (v := .int .i64 0) rfl
  have k2 := cell_atF r5 2 (v := .string AW) rfl
  have k3 := cell_atF r5 0 (v := .int .i64 2) rfl
  clear x6 r5
  go_wp2_with fail
  go_ret
  exact ⟨by simp, HB.out⟩
end Go.Proofs.Ytodjlaapmbnahaa
