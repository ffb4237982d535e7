/-
  Items there and back: what was put is taken again (layer 8).
-/
import Derived.Test.YtoonlhjldkkanaaIputB
namespace Go.Proofs.Ytoonlhjldkkanaa
open Go.RowKit
set_option linter.unusedVariables false
set_option linter.unusedSimpArgs false

theorem Only.setOwn {b R : Nat} {w x : World} (h : Only b w x) (hR : w.heap.size ≤ R) (o : Nat) (u : Value) : Only b w (x.setCell ⟨R, o, none⟩ u) :=
  ⟨h.os, h.tape, h.output, by simpa using h.size, fun k hk hn => (Below.heap_setCell _ _ _ _ (by show k ≠ R; omega)).trans (h.block k hk hn)⟩
theorem Src.setOwn {b R : Nat} {x : World} {r : RS} (h : Src x b r) (hR : b ≠ R) (o : Nat) (u : Value) : Src (x.setCell ⟨R, o, none⟩ u) b r := (Below.heap_setCell _ _ _ _ hR).trans h
/-- an item's block, written anew -/
theorem item_set {w4 : World} {R : Nat} (y : w4.heap[R]? = some (.cells #[.int .u64 0, .string ⟨#[]⟩] 24)) (v : Int) (D : ByteArray) :
    ((w4.setCell ⟨R, 0, none⟩ (.int .u64 v)).setCell ⟨R, 1, none⟩ (.string D)).cell? ⟨R, 0, none⟩ = some (.int .u64 v) ∧ ((w4.setCell ⟨R, 0, none⟩ (.int .u64 v)).setCell ⟨R, 1, none⟩ (.string D)).cell? ⟨R, 1, none⟩ = some (.string D) := by
  have k2 := heap_set_self (heap_set_self y 0 (.int .u64 v)) 1 (.string D)
  exact ⟨by simp [World.cell?, k2], by simp [World.cell?, k2]⟩
set_option maxRecDepth 100000 in
theorem itake_any (b : Nat) (r r2 : RS) (v : Int) (l : List UInt8) (w : World) (hv : (r.numV 18446744073709551615 : Int) = v) (ht : (r.numS 18446744073709551615).textB 32 = l) (h2 : (r.numS 18446744073709551615).textS 32 = r2) (h : MayT true v ⟨l.toArray⟩) (hs : Src w b r) :
    Calls Try.prog 18 #[.pointer (some ⟨b, 0, none⟩)] w fun e w' => e = .returned (.agg (if r2.e = 0 then itemA v ⟨l.toArray⟩ else itemA 0 ⟨#[]⟩)) ∧ Src w' b r2 ∧ Only b w w' := by
  have cm := h.1
  have hlim : U64 18446744073709551615 := ⟨by decide, by decide⟩
  have hb := hs.lt
  have ho0 : Only b w (w.alloc (.cells #[.int .u64 0, .string ⟨#[]⟩] 24)) := (Only.refl b w).alloc _
  have hs0 : Src (w.alloc (.cells #[.int .u64 0, .string ⟨#[]⟩] 24)) b r := by
    unfold Src at *
    rw [Below.heap_alloc _ _ _ hb]; exact hs
  have hr0 := heap_alloc_self w (.cells #[.int .u64 0, .string ⟨#[]⟩] 24)
  obtain ⟨R, hR⟩ : ∃ R, w.heap.size = R := ⟨_, rfl⟩
  have hbR : b ≠ R := by omega
  have HU := Lib.hid hlim
  have HV := Lib.hid hv
  have HT := Lib.hid ht
  have H2 := Lib.hid h2
  clear hs h hlim hv ht h2
  obtain ⟨D, hD⟩ : ∃ D : ByteArray, ⟨l.toArray⟩ = D := ⟨_, rfl⟩
  have HD := Lib.hid hD
  rw [hD] at cm ⊢
  clear hD
  unfold itemA at *
  go_enter Try.func18, Try.ntmps18
  go_upto_region 1 with fail
  rw [hR] at hr0
  try rw [hR]
  generalize w.alloc (.cells #[.int .u64 0, .string ⟨#[]⟩] 24) = w0 at *
  have HS0 := Lib.hid hs0
  have HO0 := Lib.hid ho0
  have HR0 := Lib.hid hr0
  clear hs0 ho0 hr0
  go_wp2_with fail
  refine (num_src b r _ _ HU.out HS0.out).mono ?_
  rintro e w1 ⟨rfl, hs1, ho1⟩
  rw [show (18446744073709551615 : Int).toNat = 18446744073709551615 from rfl] at hs1 ⊢
  rw [HV.out]
  have HS1 := Lib.hid hs1
  have HO1 := Lib.hid (HO0.out.trans ho1)
  have HR1 := Lib.hid ((ho1.block R (lt_heap HR0.out) (Ne.symm hbR)).trans HR0.out)
  clear hs1 ho1
  go_wp2_with fail
  refine (text_src b _ 32 _ HS1.out).mono ?_
  rintro e w2 ⟨rfl, hs2, ho2⟩
  rw [HT.out, HD.out]
  rw [H2.out] at hs2
  have HS2 := Lib.hid hs2
  have HO2 := Lib.hid (HO1.out.trans ho2)
  have HR2 := Lib.hid ((ho2.block R (lt_heap HR1.out) (Ne.symm hbR)).trans HR1.out)
  have hx := heap_alloc_self w2 (.cells #[.int .u64 v, .string D] 24)
  have hlt : R < w2.heap.size := lt_heap HR2.out
  have hlb : b < w2.heap.size := lt_heap HS2.out
  have HR3 := Lib.hid ((Below.heap_alloc w2 (.cells #[.int .u64 v, .string D] 24) R hlt).trans HR2.out)
  have HS3 := Lib.hid ((Below.heap_alloc w2 (.cells #[.int .u64 v, .string D] 24) b hlb).trans HS2.out)
  have HO3 := Lib.hid (HO2.out.alloc (.cells #[.int .u64 v, .string D] 24))
  clear hs2 ho2
  go_upto_region 2 with fail
  generalize w2.alloc (.cells #[.int .u64 v, .string D] 24) = w3 at *
  obtain ⟨X, hX⟩ : ∃ X, w2.heap.size = X := ⟨_, rfl⟩
  rw [hX] at hx hlt hlb
  try rw [hX]
  have d0 : w3.cell? ⟨X, 0, none⟩ = some (.int .u64 v) := by simp [World.cell?, hx]
  have d1 : w3.cell? ⟨X, 1, none⟩ = some (.string D) := by simp [World.cell?, hx]
  have HX := Lib.hid hx
  have hne : R ≠ X := by omega
  have hne' : X ≠ R := by omega
  clear hx hX
  go_wp2_with fail
  refine Calls.mono (cm _) ?_
  rintro e w4 ⟨rfl, hb4⟩
  have hx4 := below_at hb4 (lt_heap HX.out) HX.out
  have hr4 := below_at hb4 (lt_heap HR3.out) HR3.out
  have hs4 : Src w4 b r2 := Src.below (show Src w3 b r2 from HS3.out) hb4
  have HS4 := Lib.hid hs4
  have HO4 := Lib.hid (HO3.out.trans (Only.of_below hb4))
  have e1 := hs4.c1
  clear d0 d1
  have d0 : w4.cell? ⟨X, 0, none⟩ = some (.int .u64 v) := by simp [World.cell?, hx4]
  have d1 : w4.cell? ⟨X, 1, none⟩ = some (.string D) := by simp [World.cell?, hx4]
  have q0 : w4.cell? ⟨R, 0, none⟩ = some (.int .u64 0) := by simp [World.cell?, hr4]
  have q1 : w4.cell? ⟨R, 1, none⟩ = some (.string ⟨#[]⟩) := by simp [World.cell?, hr4]
  have g0 : w4.frozen? ⟨R, 0, none⟩ = false := by simp [World.frozen?, hr4]
  have g1 : w4.frozen? ⟨R, 1, none⟩ = false := by simp [World.frozen?, hr4]
  have HR4 := Lib.hid hr4
  clear hb4 hs4 hr4 hx4 cm
  by_cases he : r2.e = 0
  · have he' : (r2.e != 0) = false := by simp [he]
    go_wp2_with (go_at_call 69; refine (err_some _ _ _ e1).mono ?_; rintro e w' ⟨rfl, rfl⟩)
    (try simp only [Exit.inBlock, Exit.then])
    obtain ⟨s0, s1⟩ := item_set HR4.out v D
    have FO := Lib.hid ((HO4.out.setOwn (R := R) (Nat.le_of_eq hR) 0 (.int .u64 v)).setOwn (R := R) (Nat.le_of_eq hR) 1 (.string D))
    have FS := Lib.hid ((HS4.out.setOwn hbR 0 (.int .u64 v)).setOwn hbR 1 (.string D))
    generalize (w4.setCell ⟨R, 0, none⟩ (.int .u64 v)).setCell ⟨R, 1, none⟩ (.string D) = w5 at *
    refine bodyPost_ret (v := .agg #[.int .u64 v, .string D]) (by simp [results, Try.results18, go_sem, s0, s1]) rfl ?_
    exact ⟨rfl, FS.out, FO.out⟩
  · have he' : (r2.e != 0) = true := by simpa using he
    go_wp2_with (go_at_call 69; refine (err_some _ _ _ e1).mono ?_; rintro e w' ⟨rfl, rfl⟩)
    (try simp only [Exit.inBlock, Exit.then])
    obtain ⟨s0, s1⟩ := item_set HR4.out 0 ⟨#[]⟩
    have FO := Lib.hid ((HO4.out.setOwn (R := R) (Nat.le_of_eq hR) 0 (.int .u64 0)).setOwn (R := R) (Nat.le_of_eq hR) 1 (.string ⟨#[]⟩))
    have FS := Lib.hid ((HS4.out.setOwn hbR 0 (.int .u64 0)).setOwn hbR 1 (.string ⟨#[]⟩))
    generalize (w4.setCell ⟨R, 0, none⟩ (.int .u64 0)).setCell ⟨R, 1, none⟩ (.string ⟨#[]⟩) = w5 at *
    refine bodyPost_ret (v := .agg #[.int .u64 0, .string ⟨#[]⟩]) (by simp [results, Try.results18, go_sem, s0, s1]) rfl ?_
    exact ⟨rfl, FS.out, FO.out⟩
end Go.Proofs.Ytoonlhjldkkanaa
