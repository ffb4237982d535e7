/-
  The law's model of a log: the term at a place.
-/
import Derived.Test.YtkdmnhmlkcejfaaRgG
import Derived.Test.YtkdmnhmlkcejfaaNrc
namespace Go.Proofs.Ytkdmnhmlkcejfaa
open Go.RowKit
set_option linter.unusedVariables false
set_option linter.unusedSimpArgs false

def mdlA (B T : Int) (v : Value) : Array Value := #[.int .i64 B, .int .i64 T, v]
set_option maxHeartbeats 3200000 in
set_option maxRecDepth 100000 in
theorem mat (B T x : Int) (w : World) (v : Value) (ms : List EN) (h : Elts w EN.cells 7 v ms) (hb : 0 ≤ B ∧ B ≤ 1000) (hl : ms.length ≤ 1000) (hx : -1000000 ≤ x ∧ x ≤ 1000000) :
    Calls Try.prog 8 #[.agg (mdlA B T v), .int .i64 x] w fun e w' => e = .returned (.int .i64 (termG B T ms x)) ∧ Below w.heap.size w w' := by
  obtain ⟨a, c, rfl, h1, h2, h3⟩ := h
  have hb0 := (Below.refl w.heap.size w).alloc (Nat.le_refl _) (.cells #[.int .i64 B, .int .i64 T, .slice a ms.length c] 27)
  have hm := heap_alloc_self w (.cells #[.int .i64 B, .int .i64 T, .slice a ms.length c] 27)
  obtain ⟨n, hn⟩ : ∃ n, ms.length = n := ⟨_, rfl⟩
  have HN := Lib.hid hn
  have H3 := Lib.hid h3
  have HB := Lib.hid hb0
  unfold maxLen at h2
  unfold mdlA
  rw [hn] at h1 hl hm hb0 HB ⊢
  clear hn h3 hb0
  unfold termG
  by_cases x0 : x = B
  · subst x0
    rw [if_pos rfl]
    go_enter Try.func8, Try.ntmps8
    go_wp2_with fail
    go_ret
    exact ⟨rfl, HB.out⟩
  have xn : (x == B) = false := by simpa using x0
  rw [if_neg x0]
  have y1 : wrap64 (x - B) = x - B := by unfold wrap64; omega
  have y2 : wrap64 (x - B - 1) = x - B - 1 := by unfold wrap64; omega
  by_cases x1 : x < B
  · have x2 : x - B - 1 < 0 := by omega
    rw [if_neg (by omega)]
    clear x0
    go_enter Try.func8, Try.ntmps8
    go_wp2_with fail
    go_ret
    exact ⟨rfl, HB.out⟩
  rw [if_pos (by omega)]
  obtain ⟨k, hk⟩ : ∃ k : Nat, x - B - 1 = k := ⟨(x - B - 1).toNat, by omega⟩
  rw [show (x - B - 1).toNat = k by omega]
  have x2 : ¬ (x - B - 1 < 0) := by omega
  by_cases x3 : k < n
  · have x4 : ¬ ((n : Int) ≤ x - B - 1) := by omega
    obtain ⟨e, hej⟩ : ∃ e, ms[k]? = some e := ⟨_, List.getElem?_eq_getElem (by rw [HN.out]; exact x3)⟩
    obtain ⟨b, off, rfl, hbb, hc⟩ := H3.out.resolve_left (by have := HN.out; omega)
    have ck : w.cell? ⟨b, off + k * 7, none⟩ = some (.int .i64 e.t) := hc k e hej 0 _ rfl
    have hge : (ms.map EN.t).getD k 0 = e.t := by rw [List.getD_eq_getElem?_getD, List.getElem?_map, hej]; rfl
    rw [hge]
    have ck1 : (w.alloc (.cells #[.int .i64 B, .int .i64 T, .slice (some ⟨b, off, none⟩) n c] 27)).cell? ⟨b, off + k * 7, none⟩ = some (.int .i64 e.t) := (World.cell?_alloc_lt w _ ⟨b, off + k * 7, none⟩ hbb).trans ck
    have d0 := cell_atD hm 0 (v := .int .i64 B) rfl
    have d2 := cell_atD hm 2 (v := .slice (some ⟨b, off, none⟩) n c) rfl
    have d1 := cell_atD hm 1 (v := .int .i64 T) rfl
    have hkk : (k : Int) < n := by omega
    clear hc hej hge x0 H3 hm ck
    go_enter Try.func8, Try.ntmps8
    go_upto_region 1 with fail
    generalize w.alloc (.cells #[.int .i64 B, .int .i64 T, .slice (some ⟨b, off, none⟩) n c] 27) = w1 at *
    go_upto_region 4 with fail
    try rw [hk]
    have z1 : ¬ ((k : Int) < 0) := by omega
    have z2 : ¬ ((n : Int) ≤ k) := by omega
    clear x2 x4 y1 y2 hk
    go_wp2_with fail
    go_ret
    exact ⟨rfl, HB.out⟩
  · have x4 : (n : Int) ≤ x - B - 1 := by omega
    have hz : (ms.map EN.t).getD k 0 = 0 := by rw [List.getD_eq_getElem?_getD, List.getElem?_eq_none (by rw [List.length_map, HN.out]; omega)]; rfl
    rw [hz]
    clear hz x0 hk
    go_enter Try.func8, Try.ntmps8
    go_wp2_with fail
    go_ret
    exact ⟨rfl, HB.out⟩
end Go.Proofs.Ytkdmnhmlkcejfaa
