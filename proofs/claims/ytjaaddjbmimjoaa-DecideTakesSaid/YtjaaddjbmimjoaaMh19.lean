/-
  Several texts, laid together.
-/
import Derived.Test.YtjaaddjbmimjoaaMh18
import Derived.Test.YtjaaddjbmimjoaaMh15
/-
  An entry out of whatever bytes: entry.Take.
-/


namespace Go.Proofs.Ytjaaddjbmimjoaa
open Go.RowKit
set_option linter.unusedVariables false
set_option linter.unusedSimpArgs false

def MidE (b N2 base : Nat) (w2 : World) (U x : Int) (c : CF) (a2 : Option Addr) (p2 : Nat) (a3 : Option Addr) (p3 : Nat) (S : RS) (wx : World) : Prop :=
  wx.heap[N2]? = some (.cells #[.int .i64 U, .int .i64 x, .int .i64 c.e, .int .i64 c.b, .int .i64 c.k, .slice a2 c.M.length p2, .slice a3 c.C.length p3] 70) ∧ Src wx b S ∧ Only b w2 wx ∧ CFO c base wx (.slice a2 c.M.length p2) (.slice a3 c.C.length p3)
theorem MidE.below {b N2 base p2 p3 : Nat} {a2 a3 : Option Addr} {w2 wx wy : World} {U x : Int} {c : CF} {S : RS} (h : MidE b N2 base w2 U x c a2 p2 a3 p3 S wx) (hb : Below wx.heap.size wx wy) : MidE b N2 base w2 U x c a2 p2 a3 p3 S wy := by
  obtain ⟨h1, h2, h3, h4⟩ := h
  exact ⟨below_at hb (lt_heap h1) h1, below_at hb (lt_heap h2) h2, h3.trans (onlyBe hb), h4.below hb⟩
theorem MidE.src {b N2 base p2 p3 : Nat} {a2 a3 : Option Addr} {w2 wx wy : World} {U x : Int} {c : CF} {S S' : RS} (h : MidE b N2 base w2 U x c a2 p2 a3 p3 S wx) (hs : Src wy b S') (ho : Only b wx wy) (h1 : N2 ≠ b) (h2 : b < base) : MidE b N2 base w2 U x c a2 p2 a3 p3 S' wy := by
  obtain ⟨g1, g2, g3, g4⟩ := h
  exact ⟨(ho.block N2 (lt_heap g1) h1).trans g1, hs, g3.trans ho, g4.only ho h2⟩
end Go.Proofs.Ytjaaddjbmimjoaa
/-
  A command and an entry as bytes: decide.Put, entry.Put.
-/

namespace Go.Proofs.Ytjaaddjbmimjoaa
open Go.RowKit
set_option linter.unusedVariables false
set_option linter.unusedSimpArgs false

/-- a command's bytes, an entry's -/
def putD (x : Int) (c : CF) : List UInt8 := putN x.toNat ++ (if x = 2 then putN c.e.toNat else putC c)
/-- few enough -/
def LowC (c : CF) : Prop := low63 [c.e, c.b, c.k] ∧ low63 c.M ∧ low63 c.C
theorem may_low {c : CF} (h : mayC c = true) : LowC c := by
  obtain ⟨h1, ⟨m1, m2⟩, ⟨n1, n2⟩⟩ := may_in h
  refine ⟨⟨by simp, fun x hx => ?_⟩, ⟨by omega, fun x hx => ?_⟩, ⟨by omega, fun x hx => ?_⟩⟩
  · have := h1 x hx; omega
  · have := m2 x hx; omega
  · have := n2 x hx; omega
theorem none_may {c : CF} (h : noneC c = true) : mayC c = true := by unfold mayC; rw [h]; rfl
theorem mayK_in {x : Int} {c : CF} (h : mayK x c = true) : 0 ≤ x ∧ x ≤ 2 ∧ LowC c ∧ (x ≠ 2 → mayC c = true) ∧ (x = 2 → 1 ≤ c.e ∧ c.e ≤ 1048576 ∧ c = ⟨c.e, 0, 0, [], []⟩) := by
  unfold mayK at h
  by_cases h0 : x = 0
  · subst h0
    rw [if_pos rfl] at h
    exact ⟨by decide, by decide, may_low (none_may h), fun _ => none_may h, fun e => absurd e (by decide)⟩
  rw [if_neg h0] at h
  by_cases h1 : x = 1
  · subst h1
    rw [if_pos rfl] at h
    simp only [Bool.and_eq_true] at h
    exact ⟨by decide, by decide, may_low h.2.2, fun _ => h.2.2, fun e => absurd e (by decide)⟩
  rw [if_neg h1] at h
  by_cases h2 : x = 2
  · subst h2
    rw [if_pos rfl] at h
    simp only [Bool.and_eq_true, decide_eq_true_eq] at h
    obtain ⟨he1, he2, hs⟩ := h
    have hc : c = ⟨c.e, 0, 0, [], []⟩ := by
      obtain ⟨e, b, k, M, C⟩ := c
      simp [sameC] at hs
      obtain ⟨r1, r2, r3, r4⟩ := hs
      subst r1 r2 r3 r4
      rfl
    refine ⟨by decide, by decide, ?_, fun e => absurd rfl e, fun _ => ⟨he1, he2, hc⟩⟩
    rw [hc]
    exact ⟨⟨by simp, fun x hx => by simp at hx; omega⟩, ⟨by simp, fun x hx => by simp at hx⟩, ⟨by simp, fun x hx => by simp at hx⟩⟩
  · rw [if_neg h2] at h
    exact absurd h (by decide)
theorem putC_len {c : CF} (h : LowC c) : (putC c).length ≤ 40000 := by
  have h1 := listN_len h.1
  have h2 := listN_len h.2.1
  have h3 := listN_len h.2.2
  unfold putC
  simp only [List.length_append]
  omega
theorem putD_len {x : Int} {c : CF} (hx : 0 ≤ x ∧ x ≤ 9223372036854775807) (h : LowC c) : (putD x c).length ≤ 40018 := by
  have h1 := putC_len h
  have h2 := putN_length x.toNat (by omega)
  have h3 := putN_length c.e.toNat (by have := h.1.2 c.e (by simp); omega)
  unfold putD
  rw [List.length_append]
  split <;> omega
end Go.Proofs.Ytjaaddjbmimjoaa
