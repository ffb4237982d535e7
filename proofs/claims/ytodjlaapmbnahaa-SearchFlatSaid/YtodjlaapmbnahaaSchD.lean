/-
  search.Order; the orders with a writing more.
-/
import Derived.Test.YtodjlaapmbnahaaSchC
import Derived.Carry
namespace Go.Proofs.Ytodjlaapmbnahaa
open Go.RowKit Go.WideMaps
open Go.Maps (Keyed)
set_option linter.unusedVariables false
set_option linter.unusedSimpArgs false

theorem sro_of {M : Nat} {w w1 : World} {v : Value} {n : Nat} {xs : List Value} (h : SR w v 4 n xs) (hb : Below w.heap.size w w1) (hM : w.heap.size ≤ M) : SRO4 M w1 v n xs := fun wz hz => h.below (hb.trans (hz.below hM hb.size))
theorem und_all (n d : Nat) : und n d ≤ n := by
  induction n with
  | zero => exact Nat.le_refl _
  | succ n ih =>
    unfold und
    split <;> omega
theorem in_nil {d : Nat} {v : ByteArray} (h : InD (.map []) d v) : False := by
  obtain ⟨kl, _, h2⟩ := h
  simp [Maps.has] at h2
set_option maxHeartbeats 1600000 in
theorem sorder (l : List US) (a : Option Addr) (n cap : Nat) (v : ByteArray) (w : World) (h : SR w (.slice a n cap) 4 n (uCs l)) (hn : n ≤ 12) (hus : ∀ u ∈ l, u.v.size ≤ maxLen) (hv : v.size ≤ maxLen) :
    Calls Try.prog 14 #[.slice a n cap, .string v] w fun e w' => BR e (Ord l 0 v) ∧ Below w.heap.size w w' := by
  have hmm := @run_makeMap Try.prog
  have hM := World.ownsMap_made (H := Unit) w Try.prog 79 unitElem
  have hb1 := (Below.refl w.heap.size w).alloc (Nat.le_refl _) (.map #[] 0)
  have hb2 := hb1.alloc hb1.size (.cells #[.slice a n cap, .map (some w.heap.size)] 75)
  have hx := heap_alloc_self (w.alloc (.map #[] 0)) (.cells #[.slice a n cap, .map (some w.heap.size)] 75)
  have hs2 : SeenM ((w.alloc (.map #[] 0)).alloc (.cells #[.slice a n cap, .map (some w.heap.size)] 75)) w.heap.size 0 (.map []) := seen_below hM ((Below.refl _ _).alloc (Nat.le_refl _) _)
  rw [show (w.alloc (.map #[] 0)).heap.size = w.heap.size + 1 by simp] at hx
  have cf := sfrom l a n cap w.heap.size hn hus n 0 v ((w.alloc (.map #[] 0)).alloc (.cells #[.slice a n cap, .map (some w.heap.size)] 75)) 0 (.map []) (und_all _ _) (by decide) hv (sro_of h hb2 (Nat.le_refl _)) hs2 (by
    have := Nat.pow_le_pow_right (show 0 < 13 by decide) hn
    have h12 : (13 : Nat) ^ 12 ≤ 4611686018427387904 := by decide
    omega) (fun d' v' q => (in_nil q).elim)
  have HB := Lib.hid hb2
  unfold spotV at cf
  rw [show ((0 : Nat) : Int) = 0 from rfl] at cf
  clear h hM hb1 hb2 hs2 hus
  go_enter Try.func14, Try.ntmps14
  go_upto_region 4 with fail
  generalize (w.alloc (.map #[] 0)).alloc (.cells #[.slice a n cap, .map (some w.heap.size)] 75) = w2 at *
  have c0 := cellU hx 0 (v := .slice a n cap) rfl
  have c1 := cellU hx 1 (v := .map (some w.heap.size)) rfl
  obtain ⟨N, hN⟩ : ∃ N, w.heap.size = N := ⟨_, rfl⟩
  rw [hN] at c0 c1 cf HB
  try simp only [hN]
  clear hx hmm
  go_wp2_with fail
  refine Calls.mono cf ?_
  rintro e w3 ⟨⟨b, rfl, hb⟩, hp⟩
  have HR := Lib.hid (show BR (.returned (.bool b)) (Ord l 0 v) from ⟨b, rfl, hb⟩)
  have HB3 := Lib.hid (HB.out.trans (hp.only.below (Nat.le_refl _) (by rw [← hN]; exact HB.out.size)))
  clear hb hp cf c0 c1
  go_wp2_with fail
  go_ret
  exact ⟨HR.out, by rw [hN]; exact HB3.out⟩
/-- steps of the shorter list are steps of the longer one, where what is more never ended -/
theorem Ord.more {l : List US} {y : US} (hy : y.t = 1073741824) (hf : ∀ u ∈ l, u.f ≤ 1073741824) {d : Nat} {v : ByteArray} (h : Ord l d v) : Ord (l ++ [y]) d v := by
  have at_ : ∀ {i : Nat} {u : US}, (l ++ [y])[i]? = some u → l[i]? = some u ∨ u = y := fun {i u} h => by
    rcases Nat.lt_or_ge i l.length with q | q
    · rw [List.getElem?_append_left q] at h
      exact .inl h
    · rw [List.getElem?_append_right q] at h
      cases e : i - l.length with
      | zero => rw [e] at h; simp at h; exact .inr h.symm
      | succ k => rw [e] at h; simp at h
  induction h with
  | over h =>
    refine .over fun i u hu hb => ?_
    rcases at_ hu with q | rfl
    · exact h i u q hb
    · omega
  | @step d v i u hu hb h1 h2 _ ih =>
    refine .step (i := i) (u := u) (by rw [List.getElem?_append_left (List.getElem?_eq_some_iff.1 hu).1]; exact hu) hb (fun j x hx hxb => ?_) h2 ih
    rcases at_ hx with q | rfl
    · exact h1 j x q hxb
    · have := hf u (List.mem_of_getElem? hu)
      omega
end Go.Proofs.Ytodjlaapmbnahaa
