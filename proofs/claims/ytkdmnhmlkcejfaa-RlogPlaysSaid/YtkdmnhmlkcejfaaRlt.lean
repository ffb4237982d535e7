/-
  The term of an entry at a place; a log's last entry.
-/
import Derived.Test.YtkdmnhmlkcejfaaRle
namespace Go.Proofs.Ytkdmnhmlkcejfaa
open Go.RowKit
set_option linter.unusedVariables false
set_option linter.unusedSimpArgs false

/-- the term of the entry at a place -/
def termE (es : List EN) (x : Int) : Int := if 1 ≤ x then (es.map EN.t).getD (x.toNat - 1) 0 else 0
set_option maxHeartbeats 1600000 in
set_option maxRecDepth 100000 in
theorem rtermE (x : Int) (w : World) (N g : Nat) (v : Value) (ts : List EN) (h : LogE w N g v ts) (hl : ts.length ≤ 1000) (hx1 : -1000000 ≤ x) (hx2 : x ≤ 1000000) :
    Calls Try.prog 19 #[.pointer (some ⟨g, 0, none⟩), .int .i64 x] w fun e w' => e = .returned (.int .i64 (termE ts x)) ∧ ∃ q, w' = w.drewN q := by
  obtain ⟨c0, c1, c2, -⟩ := h.cells
  obtain ⟨a, c, rfl⟩ := h.form
  have cl := rlenE w N g _ ts h hl
  have hr := SR.owns h.row
  have HR := Lib.hid hr
  obtain ⟨n, hn⟩ : ∃ n, ts.length = n := ⟨_, rfl⟩
  rw [hn] at cl c2 hl
  have HN := Lib.hid hn
  unfold termE
  clear h hr hn
  by_cases h0 : x < 0
  · rw [if_neg (by omega)]
    go_enter Try.func19, Try.ntmps19
    go_wp2_with fail
    go_ret
    exact ⟨rfl, 0, rfl⟩
  · by_cases h1 : (n : Int) < x
    · have hz : (ts.map EN.t).getD (x.toNat - 1) 0 = 0 := by rw [List.getD_eq_getElem?_getD, List.getElem?_eq_none (by rw [List.length_map, HN.out]; omega)]; rfl
      have h2 : 1 ≤ x := by omega
      rw [if_pos h2, hz]
      clear hz
      go_enter Try.func19, Try.ntmps19
      go_wp2_with fail
      refine Calls.mono cl ?_
      rintro e w1 ⟨rfl, q, rfl⟩
      go_wp2_with fail
      go_ret
      exact ⟨rfl, q, rfl⟩
    · by_cases h2 : x = 0
      · subst h2
        rw [if_neg (by omega)]
        go_enter Try.func19, Try.ntmps19
        go_wp2_with fail
        refine Calls.mono cl ?_
        rintro e w1 ⟨rfl, q, rfl⟩
        go_wp2_with fail
        go_ret
        exact ⟨rfl, q, rfl⟩
      · rw [if_pos (by omega)]
        obtain ⟨k, hkx⟩ : ∃ k : Nat, x - 1 = k := ⟨(x - 1).toNat, by omega⟩
        rw [show x.toNat - 1 = k by omega]
        have hk : k < n := by omega
        obtain ⟨a', cap', he, h3, h4, h5, h6⟩ := HR.out
        injection he with e1 e2 e3
        subst e1 e3
        obtain ⟨b, off, rfl, hb, hc⟩ := h6.resolve_left (by have := HN.out; omega)
        have hkl : k < ts.length := by rw [HN.out]; exact hk
        obtain ⟨e, hej⟩ : ∃ e, ts[k]? = some e := ⟨_, List.getElem?_eq_getElem hkl⟩
        have ck := hc (k * 7) (.int .i64 e.t) (by
          have := enCells_get ts k e hej 0 (.int .i64 e.t) rfl (by decide)
          simpa using this)
        have hge : (ts.map EN.t).getD k 0 = e.t := by rw [List.getD_eq_getElem?_getD, List.getElem?_map, hej]; rfl
        rw [← hge] at ck
        clear hge hej
        obtain ⟨T, hT⟩ : ∃ T, (ts.map EN.t).getD k 0 = T := ⟨_, rfl⟩
        rw [hT] at ck
        rw [hT]
        unfold maxLen at h4
        have n0 : (x == 0) = false := by simpa using h2
        have h7 : 1 ≤ x := by omega
        clear hc hT h5 h6 hkl HR
        go_enter Try.func19, Try.ntmps19
        go_wp2_with fail
        refine Calls.mono cl ?_
        rintro e w1 ⟨rfl, q, rfl⟩
        go_wp2_with fail
        go_quiet (fail)
        go_wp2_with fail
        go_ret
        exact ⟨rfl, _, drewN_moreR _ _ _⟩
set_option maxHeartbeats 1600000 in
/-- a log's last place and term -/
theorem rlastE (w : World) (N g : Nat) (v : Value) (es : List EN) (h : LogE w N g v es) (hl : es.length ≤ 1000) :
    Calls Try.prog 17 #[.pointer (some ⟨g, 0, none⟩)] w fun e w' => e = .returned (.tuple #[.int .i64 es.length, .int .i64 (termE es es.length)]) ∧ ∃ q, w' = w.drewN q := by
  have c1 := rlenE w N g v es h hl
  have c2 := fun q => rlenE (w.drewN q) N g v es (h.drewN q) hl
  have c3 := fun q => rtermE (es.length : Int) (w.drewN q) N g v es (h.drewN q) hl (by omega) (by omega)
  generalize termE es es.length = T at *
  generalize es.length = n at *
  clear h
  go_enter Try.func17, Try.ntmps17
  go_wp2_with fail
  refine Calls.mono c1 ?_
  rintro e w1 ⟨rfl, q, rfl⟩
  go_wp2_with fail
  refine Calls.mono (c2 q) ?_
  rintro e w1 ⟨rfl, q2, rfl⟩
  rw [drewN_moreR]
  go_wp2_with fail
  refine Calls.mono (c3 _) ?_
  rintro e w1 ⟨rfl, q3, rfl⟩
  rw [drewN_moreR]
  go_wp2_with fail
  go_returns
  exact ⟨by simp, _, rfl⟩
end Go.Proofs.Ytkdmnhmlkcejfaa
