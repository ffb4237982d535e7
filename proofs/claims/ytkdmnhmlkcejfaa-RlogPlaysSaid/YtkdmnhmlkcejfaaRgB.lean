/-
  A voter's log behind any place: Term, Last, Base.
-/
import Derived.Test.YtkdmnhmlkcejfaaRgA
namespace Go.Proofs.Ytkdmnhmlkcejfaa
open Go.RowKit
set_option linter.unusedVariables false
set_option linter.unusedSimpArgs false

variable {B T : Int}
/-- the term of the entry at a place -/
def termG (B T : Int) (es : List EN) (x : Int) : Int := if x = B then T else if B < x then (es.map EN.t).getD (x - B - 1).toNat 0 else 0
set_option maxHeartbeats 1600000 in
set_option maxRecDepth 100000 in
theorem rtermG (x : Int) (w : World) (N g : Nat) (v : Value) (ts : List EN) (h : LogG B T w N g v ts) (hl : ts.length ≤ 1000) (hx1 : -1000000 ≤ x) (hx2 : x ≤ 1000000) :
    Calls Try.prog 19 #[.pointer (some ⟨g, 0, none⟩), .int .i64 x] w fun e w' => e = .returned (.int .i64 (termG B T ts x)) ∧ ∃ q, w' = w.drewN q := by
  obtain ⟨c0, c1, c2, -⟩ := h.cells
  obtain ⟨a, c, rfl⟩ := h.form
  have cl := rlenG w N g _ ts h hl
  have hr := SR.owns h.row
  have HR := Lib.hid hr
  obtain ⟨hb1, hb2⟩ := h.bd
  obtain ⟨n, hn⟩ : ∃ n, ts.length = n := ⟨_, rfl⟩
  rw [hn] at cl c2 hl
  have HN := Lib.hid hn
  unfold termG
  clear h hr hn
  by_cases h0 : x < B
  · rw [if_neg (by omega), if_neg (by omega)]
    go_enter Try.func19, Try.ntmps19
    go_wp2_with fail
    go_ret
    exact ⟨rfl, 0, rfl⟩
  · by_cases h1 : B + (n : Int) < x
    · have hz : (ts.map EN.t).getD (x - B - 1).toNat 0 = 0 := by rw [List.getD_eq_getElem?_getD, List.getElem?_eq_none (by rw [List.length_map, HN.out]; omega)]; rfl
      rw [if_neg (by omega), if_pos (by omega), hz]
      clear hz
      go_enter Try.func19, Try.ntmps19
      go_wp2_with fail
      refine Calls.mono cl ?_
      rintro e w1 ⟨rfl, q, rfl⟩
      go_wp2_with fail
      go_ret
      exact ⟨rfl, q, rfl⟩
    · by_cases h2 : x = B
      · subst h2
        rw [if_pos rfl]
        go_enter Try.func19, Try.ntmps19
        go_wp2_with fail
        refine Calls.mono cl ?_
        rintro e w1 ⟨rfl, q, rfl⟩
        go_wp2_with fail
        go_ret
        exact ⟨rfl, q, rfl⟩
      · rw [if_neg h2, if_pos (by omega)]
        obtain ⟨k, hkx⟩ : ∃ k : Nat, x - B - 1 = k := ⟨(x - B - 1).toNat, by omega⟩
        rw [show (x - B - 1).toNat = k by omega]
        have hk : k < n := by omega
        obtain ⟨a', cap', he, h3, h4, h5, h6⟩ := HR.out
        injection he with e1 e2 e3
        subst e1 e3
        obtain ⟨b, off, rfl, hb, hc⟩ := h6.resolve_left (by have := HN.out; omega)
        have hkl : k < ts.length := by rw [HN.out]; exact hk
        obtain ⟨e, hej⟩ : ∃ e, ts[k]? = some e := ⟨_, List.getElem?_eq_getElem hkl⟩
        have ck := hc (k * 7) (.int .i64 e.t) (by
          have := enCells_get ts k e hej 0 (.int .i64 e.t) rfl (by decide)
          simpa using this)
        have hge : (ts.map EN.t).getD k 0 = e.t := by rw [List.getD_eq_getElem?_getD, List.getElem?_map, hej]; rfl
        rw [← hge] at ck
        clear hge hej
        obtain ⟨S, hT⟩ : ∃ T, (ts.map EN.t).getD k 0 = T := ⟨_, rfl⟩
        rw [hT] at ck
        rw [hT]
        unfold maxLen at h4
        have n0 : (x == B) = false := by simpa using h2
        have w1 : IntKind.i64.wrap (x - B) = x - B := by rw [IntKind.wrap_i64]; omega
        have w2 : IntKind.i64.wrap (x - B - 1) = k := by rw [IntKind.wrap_i64]; omega
        have HK := Lib.hid hkx
        clear hc hT h5 h6 hkl HR hkx h2
        go_enter Try.func19, Try.ntmps19
        go_wp2_with fail
        refine Calls.mono cl ?_
        rintro e w1 ⟨rfl, q, rfl⟩
        go_wp2_with fail
        go_quiet (fail)
        go_wp2_with fail
        go_ret
        exact ⟨rfl, _, drewN_moreR _ _ _⟩
set_option maxHeartbeats 1600000 in
/-- a log's last place and term -/
theorem rlastG (w : World) (N g : Nat) (v : Value) (es : List EN) (h : LogG B T w N g v es) (hl : es.length ≤ 1000) :
    Calls Try.prog 17 #[.pointer (some ⟨g, 0, none⟩)] w fun e w' => e = .returned (.tuple #[.int .i64 (B + es.length), .int .i64 (termG B T es (B + es.length))]) ∧ ∃ q, w' = w.drewN q := by
  have c1 := rlenG w N g v es h hl
  have c2 := fun q => rlenG (w.drewN q) N g v es (h.drewN q) hl
  have c3 := fun q => rtermG (B + (es.length : Int)) (w.drewN q) N g v es (h.drewN q) hl (by have := h.bd; omega) (by have := h.bd; omega)
  generalize B + (es.length : Int) = n at *
  generalize termG B T es n = S at *
  clear h
  go_enter Try.func17, Try.ntmps17
  go_wp2_with fail
  refine Calls.mono c1 ?_
  rintro e w1 ⟨rfl, q, rfl⟩
  go_wp2_with fail
  refine Calls.mono (c2 q) ?_
  rintro e w1 ⟨rfl, q2, rfl⟩
  rw [drewN_moreR]
  go_wp2_with fail
  refine Calls.mono (c3 _) ?_
  rintro e w1 ⟨rfl, q3, rfl⟩
  rw [drewN_moreR]
  go_wp2_with fail
  go_returns
  exact ⟨by first | rfl | simp, _, rfl⟩
theorem rbaseG (w : World) (N g : Nat) (v : Value) (es : List EN) (h : LogG B T w N g v es) :
    Calls Try.prog 16 #[.pointer (some ⟨g, 0, none⟩)] w fun e w' => e = .returned (.tuple #[.int .i64 B, .int .i64 T]) ∧ ∃ q, w' = w.drewN q := by
  obtain ⟨c0, c1, -, -⟩ := h.cells
  clear h
  go_enter Try.func16, Try.ntmps16
  go_wp2_with fail
  try go_quiet (fail)
  try go_wp2_with fail
  go_returns
  first
    | exact ⟨rfl, _, rfl⟩
    | exact ⟨rfl, 0, rfl⟩
/-- nothing but the log's own places and rows turns -/
theorem rresetG (b' t' : Int) (hb : 0 ≤ b' ∧ b' ≤ 1000) (ht : 0 ≤ t' ∧ t' ≤ 1000) (w : World) (N g : Nat) (v : Value) (es : List EN) (h : LogG B T w N g v es) :
    Calls Try.prog 12 #[.pointer (some ⟨g, 0, none⟩), .int .i64 b', .int .i64 t'] w fun e w' => e = .returned (.tuple #[]) ∧ LogG b' t' w' N g (.slice none 0 0) [] ∧ Only g w w' := by
  obtain ⟨c0, c1, c2, c3⟩ := h.cells
  have fz : ∀ j, w.frozen? ⟨g, j, none⟩ = false := fun j => by have := h.obj; simp [World.frozen?, this]
  obtain ⟨a, c, rfl⟩ := h.form
  have m1 : max b' 0 = b' := by omega
  have m2 : max t' 0 = t' := by omega
  have n1 : ¬ (b' < 0) := by omega
  have n2 : ¬ (t' < 0) := by omega
  have q1 : (((w.setCell ⟨g, 0, none⟩ (.int .i64 b')).setCell ⟨g, 1, none⟩ (.int .i64 t')).setCell ⟨g, 2, none⟩ (.slice none 0 0)).heap[g]? = some (.cells #[.int .i64 b', .int .i64 t', .slice none 0 0] 70) := heap_set_self (heap_set_self (heap_set_self h.obj 0 _) 1 _) 2 _
  have q2 : Only g w (((w.setCell ⟨g, 0, none⟩ (.int .i64 b')).setCell ⟨g, 1, none⟩ (.int .i64 t')).setCell ⟨g, 2, none⟩ (.slice none 0 0)) := (((Only.refl _ _).set 0 _).set 1 _).set 2 _
  have HF := Lib.hid (show LogG b' t' _ N g (.slice none 0 0) [] ∧ _ from ⟨⟨h.low, q1, World.ownsRow_nil _ _ _ _, by simp, hb⟩, q2⟩)
  clear q1 q2 h
  go_enter Try.func12, Try.ntmps12
  go_wp2_with fail
  try go_region
  try go_wp2_with fail
  go_end0
  exact ⟨rfl, HF.out.1, HF.out.2⟩
end Go.Proofs.Ytkdmnhmlkcejfaa
