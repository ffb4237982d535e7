/-
  NumPuts' walk.
-/
import Derived.Test.YtbfomdojahaimaaNumW
import Derived.Test.YtbfomdojahaimaaNumE
namespace Go.Proofs.Ytbfomdojahaimaa
open Go.RowKit
set_option linter.unusedVariables false

theorem bytes_list (s : ByteArray) : s = ⟨s.data.toList.toArray⟩ := by cases s; simp
theorem wf_u64 {n : Int} (h : (Lit.int .u64 n).wf = true) : U64 n := by
  simp [Lit.wf, IntKind.min, IntKind.max, IntKind.signed, IntKind.bits] at h
  exact ⟨by omega, by omega⟩
theorem wf_i64 {n : Int} (h : (Lit.int .i64 n).wf = true) : -9223372036854775808 ≤ n ∧ n ≤ 9223372036854775807 := by
  simp [Lit.wf, IntKind.min, IntKind.max, IntKind.signed, IntKind.bits] at h
  omega
/-- a row that came in, cut to its first k elements -/
theorem RowOf.ints {w : World} {a : Option Addr} {len cap : Nat} {zs : List Int} (h : RowOf .i64 w a len cap zs) (k : Nat) (hk : k ≤ len) :
    ∃ l : List Int, l = zs.take k ∧ l.length = k ∧ (∀ x ∈ l, -9223372036854775808 ≤ x ∧ x ≤ 9223372036854775807) ∧ (k = 0 ∨ ∃ b off, a = some ⟨b, off, none⟩ ∧ b < w.heap.size ∧ ∀ j, j < k → w.cell? ⟨b, off + j, none⟩ = some (.int .i64 (l.getD j 0))) := by
  refine ⟨zs.take k, rfl, ?_, ?_, ?_⟩
  · rcases h with ⟨rfl, rfl, rfl, rfl⟩ | ⟨x, rfl, hl, hm, hz, _⟩
    · obtain rfl : k = 0 := by omega
      rfl
    · rw [List.length_take]; omega
  · intro x hx
    rcases h with ⟨rfl, rfl, rfl, rfl⟩ | ⟨y, rfl, hl, hm, hz, hc, hw⟩
    · simp at hx
    · exact wf_i64 (hw x (List.mem_of_mem_take hx))
  · by_cases h0 : k = 0
    · exact .inl h0
    · right
      rcases h with ⟨rfl, rfl, rfl, rfl⟩ | ⟨⟨b, off, spot⟩, rfl, hl, hm, hz, hc, hw⟩
      · omega
      · have c0 := hc 0 (by omega)
        have hs : spot = none := by
          have := World.cell?_spot c0
          simpa [Addr.add] using this
        subst hs
        have hb : b < w.heap.size := by
          have := World.block_lt_of_cell? w _ c0
          simpa [Addr.add] using this
        refine ⟨b, off, rfl, hb, fun j hj => ?_⟩
        have hcj := hc j (by omega)
        have ha : (⟨b, off, none⟩ : Addr).add j = ⟨b, off + j, none⟩ := by unfold Addr.add; split <;> simp_all
        rw [ha] at hcj
        rw [hcj]
        simp [List.getD, hj]
theorem Ints.below {w w' : World} {v : Value} {zs : List Int} (h : Ints w v zs) (hb : Below w.heap.size w w') : Ints w' v zs := by
  obtain ⟨a, cap, rfl, hm, hc⟩ := h
  refine ⟨a, cap, rfl, hm, hc.imp id ?_⟩
  rintro ⟨b, off, rfl, hlt, hcell⟩
  exact ⟨b, off, rfl, Nat.lt_of_lt_of_le hlt hb.size, fun j hj => by rw [hb.cell hlt]; exact hcell j hj⟩
set_option maxHeartbeats 1600000 in
set_option maxRecDepth 100000 in
theorem puts_law (n : Int) (s : ByteArray) (a : Option Addr) (len cap : Nat) (zs : List Int) (w : World) (hn : (Lit.int .u64 n).wf = true) (hs : s.size ≤ maxLen) (hr : RowOf .i64 w a len cap zs) :
    Calls Try.prog 3 #[.int .u64 n, .string s, .slice a len cap] w fun e w' => e = .returned (.bool true) ∧ Below w.heap.size w w' := by
  have hu := wf_u64 hn
  obtain ⟨t, ht⟩ : ∃ t, s.data.toList = t := ⟨_, rfl⟩
  have hst : s = ⟨t.toArray⟩ := by rw [← ht]
  have htl : t.length ≤ maxLen := ht ▸ hs
  subst hst
  have hlc : len ≤ cap ∧ cap ≤ maxLen := by
    rcases hr with ⟨_, rfl, rfl, _⟩ | ⟨_, _, h1, h2, _⟩
    · exact ⟨Nat.le_refl _, Nat.zero_le _⟩
    · exact ⟨h1, h2⟩
  obtain ⟨l, -, hl, hlz, hlr⟩ := hr.ints (min len 40) (by omega)
  unfold maxLen at hlc htl
  have h0 := hu.1
  have HU := Lib.hid hu
  obtain ⟨par, hpar⟩ : ∃ p, (n % 2 == 1) = p := ⟨_, rfl⟩
  clear hn hu hs ht hr
  go_enter Try.func3, Try.ntmps3
  go_wp2
  go_quiet (fail)
  have e1 : ByteArray.extract ⟨t.toArray⟩ 0 (min (t.length : Int) 300).toNat = ⟨(t.take 300).toArray⟩ := by
    rw [str_take, show (min (t.length : Int) 300).toNat = min t.length 300 by omega]
    congr 2
    rw [List.take_eq_take_iff]
    omega
  have e2 : (min (len : Int) 40).toNat = l.length := by rw [hl, min_toNat _ _ (by decide)]; rfl
  simp only [e1, e2]
  have htt : (t.take 300).length ≤ 300 := List.length_take_le _ _
  generalize t.take 300 = tt at *
  have hv : Ints w (.slice a l.length cap) l := ⟨a, cap, rfl, by omega, hlr.imp (fun h => List.eq_nil_of_length_eq_zero (by omega)) (fun ⟨b, off, h1, h2, h3⟩ => ⟨b, off, h1, h2, fun j hj => h3 j (by omega)⟩)⟩
  have HV := Lib.hid hv
  have hl40 : l.length ≤ 40 := by omega
  have hmax : ∀ x ∈ l, x ≤ 9223372036854775807 := fun x hx => (hlz x hx).2
  have HM := Lib.hid hmax
  clear e1 e2 hv hlz hmax hlr hl hlc htl
  have hb0 : Below w.heap.size w (w.drewN nq) := below_drewN' (Below.refl _ _) nq
  generalize w.drewN nq = w0 at *
  go_wp2_with fail
  refine (awake_any _).mono ?_
  rintro e w1 ⟨rfl, hb⟩
  have hb1 := hb0.trans (hb.mono hb0.size)
  clear hb hb0
  go_wp2_with fail
  refine (put_any n _ HU.out).mono ?_
  rintro e w2 ⟨rfl, hb⟩
  have hb2 := hb1.trans (hb.mono hb1.size)
  clear hb hb1
  go_wp2_with fail
  refine (refput_any n _ HU.out).mono ?_
  rintro e w3 ⟨rfl, hb⟩
  have hb3 := hb2.trans (hb.mono hb2.size)
  clear hb hb2
  go_wp2_with fail
  refine (word_any (n % 4294967296) _ (by omega) (by omega)).mono ?_
  rintro e w4 ⟨rfl, hb⟩
  have hb4 := hb3.trans (hb.mono hb3.size)
  clear hb hb3
  go_wp2_with fail
  refine (refword_any (n % 4294967296) _ (by omega) (by omega)).mono ?_
  rintro e w5 ⟨rfl, hb⟩
  have hb5 := hb4.trans (hb.mono hb4.size)
  clear hb hb4
  go_wp2_with fail
  refine (text_any tt _ (by omega)).mono ?_
  rintro e w6 ⟨rfl, hb⟩
  have hb6 := hb5.trans (hb.mono hb5.size)
  clear hb hb5
  go_wp2_with fail
  refine (reftext_any tt _ (by omega)).mono ?_
  rintro e w7 ⟨rfl, hb⟩
  have hb7 := hb6.trans (hb.mono hb6.size)
  clear hb hb6
  go_wp2_with fail
  refine (bool_any _ _).mono ?_
  rintro e w8 ⟨rfl, rfl⟩
  go_wp2_with fail
  refine (refbool_any _ _).mono ?_
  rintro e w9 ⟨rfl, rfl⟩
  go_wp2_with fail
  refine (list_any _ l _ (HV.out.below hb7) (by omega) HM.out).mono ?_
  rintro e w10 ⟨rfl, hb⟩
  have hb10 := hb7.trans (hb.mono hb7.size)
  clear hb hb7
  go_wp2_with fail
  refine (reflist_any _ l _ (HV.out.below hb10) (by omega) HM.out).mono ?_
  rintro e w11 ⟨rfl, hb⟩
  have hb11 := hb10.trans (hb.mono hb10.size)
  clear hb hb10
  go_wp2
  go_ret
  exact ⟨rfl, hb11⟩
end Go.Proofs.Ytbfomdojahaimaa
