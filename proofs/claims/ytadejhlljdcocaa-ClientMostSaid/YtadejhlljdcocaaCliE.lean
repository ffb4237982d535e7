/-
  A history: what was told of a number.
-/
import Derived.Test.YtadejhlljdcocaaCliB
namespace Go.Proofs.Ytadejhlljdcocaa
open Go.RowKit
open Go.Maps (Keyed)
set_option linter.unusedVariables false
set_option linter.unusedSimpArgs false

/-- is it the answer of a number? -/
def isAns (id : Int) (e : EV) : Bool := e.ans && decide (e.id = id)
theorem evc (e : EV) : e.c.toArray = #[.bool e.ans, .int .i64 e.id, .int .i64 e.gate, .int .i64 e.what, .int .i64 e.at_, .int .i64 e.len, .string e.data, .bool e.sure, .int .i64 e.err, .string e.txt] := rfl
set_option maxHeartbeats 1600000 in
theorem cfind1 (id : Int) (x : EV) (q : Nat) (w : World) (hq : w.cell? ⟨q, 0, none⟩ = some (.int .i64 id)) (hqs : q < w.heap.size) :
    Calls Try.prog 108 (#[.agg x.c.toArray] ++ #[.pointer (some ⟨q, 0, none⟩)]) w fun e w' => e = .returned (.bool (isAns id x)) ∧ Below w.heap.size w w' := by
  obtain ⟨a, i, g, wh, at_, ln, dt, su, er, tx⟩ := x
  rw [evc]
  show Calls _ _ #[_, _] _ _
  have hb0 := (Below.refl w.heap.size w).alloc (Nat.le_refl _) (.cells #[.bool a, .int .i64 i, .int .i64 g, .int .i64 wh, .int .i64 at_, .int .i64 ln, .string dt, .bool su, .int .i64 er, .string tx] 104)
  have hy := heap_alloc_self w (.cells #[.bool a, .int .i64 i, .int .i64 g, .int .i64 wh, .int .i64 at_, .int .i64 ln, .string dt, .bool su, .int .i64 er, .string tx] 104)
  have hq1 := (hb0.cell (p := ⟨q, 0, none⟩) hqs).trans hq
  obtain ⟨p, hp⟩ : ∃ p, isAns id ⟨a, i, g, wh, at_, ln, dt, su, er, tx⟩ = p := ⟨_, rfl⟩
  rw [hp]
  simp only [isAns] at hp
  have HB := Lib.hid hb0
  clear hb0 hq
  go_enter Try.func108, Try.ntmps108
  go_upto_region 1 with fail
  generalize w.alloc (.cells #[.bool a, .int .i64 i, .int .i64 g, .int .i64 wh, .int .i64 at_, .int .i64 ln, .string dt, .bool su, .int .i64 er, .string tx] 104) = w1 at *
  have y0 := scell0 hy 0 (v := .bool a) rfl
  have y1 := scell0 hy 1 (v := .int .i64 i) rfl
  clear hy
  cases a
  · have : p = false := by simpa using hp.symm
    subst this
    clear hp
    go_wp2_with fail
    go_ret
    exact ⟨rfl, HB.out⟩
  · have hp2 : (i == id) = p := by rw [← hp]; by_cases h : i = id <;> simp [h]
    clear hp
    go_wp2_with fail
    go_ret
    exact ⟨by first | rfl | rw [hp2], HB.out⟩
theorem sr_ev {w : World} {a : Option Addr} {len cap : Nat} {E : List EV} (h : SR w (.slice a len cap) 10 len (evC E)) {j : Nat} {x : EV} (hx : E[j]? = some x) :
    ∃ b off, a = some ⟨b, off, none⟩ ∧ ∀ k v, x.c[k]? = some v → k < 10 → w.cell? ⟨b, off + j * 10 + k, none⟩ = some v := by
  obtain ⟨a', cap', he, h1, h2, h3, h4⟩ := h
  injection he with e1 e2 e3
  subst e1 e3
  have hj : j < E.length := (List.getElem?_eq_some_iff.1 hx).1
  rw [evC_length] at h3
  obtain ⟨b, off, rfl, hb, hc⟩ := h4.resolve_left (by omega)
  refine ⟨b, off, rfl, fun k v hk hk4 => ?_⟩
  rw [Nat.add_assoc]
  exact hc _ _ (evC_get E j x hx k v hk hk4)
theorem find_noneC {p : EV → Bool} {ts : List EV} {j : Nat} {t : EV} (h : (ts.take j).find? p = none) (ht : ts[j]? = some t) : (ts.take (j + 1)).find? p = if p t then some t else none := by
  rw [List.take_add_one, ht, List.find?_append, h]
  cases hpt : p t <;> simp [Option.toList, List.find?, hpt]
theorem find_hitC {p : EV → Bool} {ts : List EV} {j : Nat} {t : EV} (h : (ts.take j).find? p = none) (ht : ts[j]? = some t) (hp : p t = true) : ts.find? p = some t := by
  have e := find_noneC h ht
  rw [if_pos hp] at e
  rw [← List.take_append_drop (j + 1) ts, List.find?_append, e]
  rfl
set_option maxHeartbeats 3200000 in
set_option maxRecDepth 100000 in
theorem cidx (id : Int) (q : Nat) (E : List EV) (w : World) (v : Value) (hv : SR w v 10 E.length (evC E)) (hq : w.cell? ⟨q, 0, none⟩ = some (.int .i64 id)) (hqs : q < w.heap.size) :
    Calls Try.prog 107 #[v, .func (.func 108) #[] #[.pointer (some ⟨q, 0, none⟩)]] w fun e w' =>
      ((∃ (k : Nat) (x : EV), e = .returned (.int .i64 k) ∧ E[k]? = some x ∧ E.find? (isAns id) = some x) ∨ e = .returned (.int .i64 (-1)) ∧ E.find? (isAns id) = none) ∧ Below w.heap.size w w' := by
  obtain ⟨a, cap, rfl, hlc, hcm⟩ := hv.form
  unfold maxLen at hcm
  have eg : ∀ args w, (callFunc 108 args).run Try.prog w = .ok (.enter 108 args) w := fun _ _ => by rfl
  have HV := Lib.hid hv
  have HQ := Lib.hid (And.intro hq hqs)
  obtain ⟨n, hn⟩ : ∃ n, E.length = n := ⟨_, rfl⟩
  rw [hn] at HV hlc
  rw [hn]
  have HN := Lib.hid hn
  clear hv hq hqs hn
  go_enter Try.func107, Try.ntmps107
  go_wp2_with fail
  go_loopw [8] (fun i wr => ∃ j : Nat, j ≤ n ∧ i = .int .i64 j ∧ Hid (Below w.heap.size w wr ∧ (E.take j).find? (isAns id) = none)) (fun i _ => n - (intOf i).toNat)
  case atStart => exact ⟨0, Nat.zero_le _, rfl, Lib.hid ⟨Below.refl _ _, rfl⟩⟩
  case round =>
    obtain ⟨j, hj, rfl, HR⟩ := hrel
    by_cases hlt : j < n
    · obtain ⟨x, hx⟩ : ∃ x, E[j]? = some x := ⟨_, List.getElem?_eq_getElem (by have := HN.out; omega)⟩
      obtain ⟨b, off, rfl, hc⟩ := sr_ev (HV.out.below HR.out.1) hx
      have k0 := hc 0 _ rfl (by decide)
      have k1 := hc 1 _ rfl (by decide)
      have k2 := hc 2 _ rfl (by decide)
      have k3 := hc 3 _ rfl (by decide)
      have k4 := hc 4 _ rfl (by decide)
      have k5 := hc 5 _ rfl (by decide)
      have k6 := hc 6 _ rfl (by decide)
      have k7 := hc 7 _ rfl (by decide)
      have k8 := hc 8 _ rfl (by decide)
      have k9 := hc 9 _ rfl (by decide)
      rw [Nat.add_zero] at k0
      have cf := cfind1 id x q wr ((HR.out.1.cell (p := ⟨q, 0, none⟩) HQ.out.2).trans HQ.out.1) (Nat.lt_of_lt_of_le HQ.out.2 HR.out.1.size)
      rw [evc] at cf
      have hnx := find_noneC HR.out.2 hx
      have hht := find_hitC (p := isAns id) HR.out.2 hx
      have HX := Lib.hid (And.intro hnx (And.intro hht hx))
      obtain ⟨p, hp⟩ : ∃ p, isAns id x = p := ⟨_, rfl⟩
      rw [hp] at cf
      have HP := Lib.hid hp
      clear hc hnx hht hx hp
      go_wp2_with fail
      refine Calls.mono cf ?_
      rintro e w2 ⟨rfl, hb2⟩
      have HB := Lib.hid (HR.out.1.trans (hb2.mono HR.out.1.size))
      clear cf k0 k1 k2 k3 k4 k5 k6 k7 k8 k9 hb2
      cases p
      · have h2 := HX.out.1
        rw [HP.out] at h2
        have HF := Lib.hid (show Below w.heap.size w w2 ∧ (E.take (j + 1)).find? (isAns id) = none from ⟨HB.out, by simpa using h2⟩)
        clear h2
        go_wp2_with fail
        go_roundw
        case rel => exact ⟨j + 1, by omega, by go_num, HF⟩
        case measure => simp [intOf]; omega
      · go_wp2_with fail
        go_ret
        exact ⟨.inl ⟨j, x, rfl, HX.out.2.2, HX.out.2.1 HP.out⟩, HB.out⟩
    · obtain rfl : j = n := by omega
      go_wp2_with fail
      go_ret
      refine ⟨.inr ⟨rfl, ?_⟩, HR.out.1⟩
      have := HR.out.2
      rwa [← HN.out, List.take_length] at this
end Go.Proofs.Ytadejhlljdcocaa
