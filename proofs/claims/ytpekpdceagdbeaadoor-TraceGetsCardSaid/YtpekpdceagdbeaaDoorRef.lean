/-
  What the document says of bytes that are taken (tarnref01.R): Fail, Take, value.
-/
import Derived.Test.YtpekpdceagdbeaaDoorFrm
import Derived.Test.YtpekpdceagdbeaaDoorHeld
namespace Go.Proofs.YtpekpdceagdbeaaDoor
open Go.RowKit
set_option linter.unusedVariables false
set_option linter.unusedSimpArgs false

def rC (r : RS) : Value := .agg #[.string ⟨r.s.toArray⟩, .int .i64 r.e]
/-- behind an error nothing is left -/
def ROk (r : RS) : Prop := r.e = 0 ∨ r.s = []
theorem ROk.fail {r : RS} (h : ROk r) (n : Int) : ROk (r.fail n) := by
  unfold RS.fail
  split
  · exact .inr rfl
  · exact h
theorem ROk.take {r : RS} (h : ROk r) (n : Int) : ROk (r.takeS n) := by
  unfold RS.takeS
  split
  · exact h
  · split
    · exact h.fail 2
    · next h1 _ => exact .inl (by simpa using h1)
theorem cell_at {w : World} {b : Nat} {A : Array Value} {t : TypeId} (h : w.heap[b]? = some (.cells A t)) (i : Nat) {v : Value} (hv : A[i]? = some v) : w.cell? ⟨b, i, none⟩ = some v := by
  simp [World.cell?, h, hv]
theorem two_alloc (w : World) (A B : Array Value) (t : TypeId) : ((w.alloc (.cells A t)).alloc (.cells B t)).heap[w.heap.size]? = some (.cells A t) ∧ ((w.alloc (.cells A t)).alloc (.cells B t)).heap[w.heap.size + 1]? = some (.cells B t) ∧ Below w.heap.size w ((w.alloc (.cells A t)).alloc (.cells B t)) := by
  have h1 := heap_alloc_self w (.cells A t)
  have h2 := heap_alloc_self (w.alloc (.cells A t)) (.cells B t)
  rw [show (w.alloc (.cells A t)).heap.size = w.heap.size + 1 by simp] at h2
  exact ⟨(Below.heap_alloc _ _ _ (lt_heap h1)).trans h1, h2, ((Below.refl _ w).alloc (Nat.le_refl _) _).alloc (by simp) _⟩
theorem set_two {w : World} {b : Nat} {x y u v : Value} {t : TypeId} (h : w.heap[b]? = some (.cells #[x, y] t)) : ((w.setCell ⟨b, 0, none⟩ u).setCell ⟨b, 1, none⟩ v).heap[b]? = some (.cells #[u, v] t) := by
  have h1 := heap_set_self h 0 u
  have h2 := heap_set_self h1 1 v
  simpa using h2
set_option maxHeartbeats 800000 in
theorem rfail (r : RS) (n : Int) (w : World) : Calls Tryd.prog 146 #[rC r, .int .i64 n] w fun e w' => e = .returned (rC (r.fail n)) ∧ Below w.heap.size w w' := by
  obtain ⟨s, er⟩ := r
  unfold rC
  simp only
  by_cases hc : er = 0 ∧ n ≠ 0
  · have hf : (⟨s, er⟩ : RS).fail n = ⟨[], n⟩ := by unfold RS.fail; rw [if_pos hc]
    rw [hf]
    obtain ⟨rfl, hn⟩ := hc
    obtain ⟨h1, h2, hb⟩ := two_alloc w #[.string ⟨s.toArray⟩, .int .i64 0] #[.string ⟨#[]⟩, .int .i64 0] 123
    have hn1 : (n == 0) = false := by simpa using hn
    have hn2 : (n != 0) = true := by simpa using hn
    clear hf hn
    go_enter Tryd.func146, Tryd.ntmps146
    go_upto_region 1 with fail
    generalize (w.alloc (.cells #[.string ⟨s.toArray⟩, .int .i64 0] 123)).alloc (.cells #[.string ⟨#[]⟩, .int .i64 0] 123) = w1 at *
    have c0 := cell_at h1 0 (v := .string ⟨s.toArray⟩) rfl
    have c1 := cell_at h1 1 (v := .int .i64 0) rfl
    have d0 := cell_at h2 0 (v := .string ⟨#[]⟩) rfl
    have d1 := cell_at h2 1 (v := .int .i64 0) rfl
    have HS := Lib.hid (set_two (u := .string ⟨#[]⟩) (v := .int .i64 n) h2)
    have HB := Lib.hid ((hb.setCell (p := ⟨w.heap.size + 1, 0, none⟩) (by show w.heap.size ≤ w.heap.size + 1; omega) (.string ⟨#[]⟩)).setCell (p := ⟨w.heap.size + 1, 1, none⟩) (by show w.heap.size ≤ w.heap.size + 1; omega) (.int .i64 n))
    have f0 : w1.frozen? ⟨w.heap.size + 1, 0, none⟩ = false := by simp [World.frozen?, h2]
    have f1 : w1.frozen? ⟨w.heap.size + 1, 1, none⟩ = false := by simp [World.frozen?, h2]
    clear h1 h2 hb
    go_wp2_with fail
    have s0 := cell_at HS.out 0 (v := .string ⟨#[]⟩) rfl
    have s1 := cell_at HS.out 1 (v := .int .i64 n) rfl
    generalize ((w1.setCell ⟨w.heap.size + 1, 0, none⟩ (.string ⟨#[]⟩)).setCell ⟨w.heap.size + 1, 1, none⟩ (.int .i64 n)) = w2 at *
    refine bodyPost_ret (v := .agg #[.string ⟨#[]⟩, .int .i64 n]) (by simp [results, Tryd.results146, go_sem, s0, s1]) rfl ?_
    exact ⟨rfl, HB.out⟩
  · have hf : (⟨s, er⟩ : RS).fail n = ⟨s, er⟩ := by unfold RS.fail; rw [if_neg hc]
    rw [hf]
    obtain ⟨h1, h2, hb⟩ := two_alloc w #[.string ⟨s.toArray⟩, .int .i64 er] #[.string ⟨#[]⟩, .int .i64 0] 123
    have hcc : (er == 0 && n != 0) = false := by
      rw [← Bool.not_eq_true]
      intro q
      simp at q
      exact hc ⟨q.1, q.2⟩
    have HCC := Lib.hid hcc
    clear hf hc
    go_enter Tryd.func146, Tryd.ntmps146
    go_upto_region 1 with fail
    generalize (w.alloc (.cells #[.string ⟨s.toArray⟩, .int .i64 er] 123)).alloc (.cells #[.string ⟨#[]⟩, .int .i64 0] 123) = w1 at *
    have c0 := cell_at h1 0 (v := .string ⟨s.toArray⟩) rfl
    have c1 := cell_at h1 1 (v := .int .i64 er) rfl
    have d0 := cell_at h2 0 (v := .string ⟨#[]⟩) rfl
    have d1 := cell_at h2 1 (v := .int .i64 0) rfl
    have HS := Lib.hid (set_two (u := .string ⟨s.toArray⟩) (v := .int .i64 er) h2)
    have HB := Lib.hid ((hb.setCell (p := ⟨w.heap.size + 1, 0, none⟩) (by show w.heap.size ≤ w.heap.size + 1; omega) (.string ⟨s.toArray⟩)).setCell (p := ⟨w.heap.size + 1, 1, none⟩) (by show w.heap.size ≤ w.heap.size + 1; omega) (.int .i64 er))
    have f0 : w1.frozen? ⟨w.heap.size + 1, 0, none⟩ = false := by simp [World.frozen?, h2]
    have f1 : w1.frozen? ⟨w.heap.size + 1, 1, none⟩ = false := by simp [World.frozen?, h2]
    clear h1 h2 hb
    have hcs : (er == 0) = false ∨ (er == 0) = true ∧ (n != 0) = false := by
      cases h : er == 0
      · exact .inl rfl
      · rw [h] at hcc
        exact .inr ⟨rfl, by simpa using hcc⟩
    clear hcc
    rcases hcs with he0 | ⟨he0, hn0⟩
    all_goals
      go_wp2_with fail
      have s0 := cell_at HS.out 0 (v := .string ⟨s.toArray⟩) rfl
      have s1 := cell_at HS.out 1 (v := .int .i64 er) rfl
      generalize ((w1.setCell ⟨w.heap.size + 1, 0, none⟩ (.string ⟨s.toArray⟩)).setCell ⟨w.heap.size + 1, 1, none⟩ (.int .i64 er)) = w2 at *
      refine bodyPost_ret (v := .agg #[.string ⟨s.toArray⟩, .int .i64 er]) (by simp [results, Tryd.results146, go_sem, s0, s1]) rfl ?_
      exact ⟨rfl, HB.out⟩
end Go.Proofs.YtpekpdceagdbeaaDoor
