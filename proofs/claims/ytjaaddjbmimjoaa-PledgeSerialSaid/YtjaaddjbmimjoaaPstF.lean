/-
  past's uses: those that are writings (slices.IndexFunc, slices.DeleteFunc).
-/
import Derived.Test.YtjaaddjbmimjoaaPstE
import Derived.Test.YtjaaddjbmimjoaaRow
namespace Go.Proofs.Ytjaaddjbmimjoaa
open Go.RowKit
set_option linter.unusedVariables false
set_option linter.unusedSimpArgs false

theorem pof1 (u : Us) (w : World) : Calls Try.prog 77 #[.agg #[.bool u.wr, .string u.val, .int .i64 u.from_, .int .i64 u.til]] w fun e w' => e = .returned (.bool (!u.wr)) ∧ Below w.heap.size w w' := by
  go_enter Try.func77, Try.ntmps77
  go_wp2_with fail
  go_returns
  exact ⟨rfl, by go_grown⟩
theorem us_cells {w : World} {a : Option Addr} {n cap : Nat} {M : List Us} (h : Elts w Us.c 4 (.slice a n cap) M) {j : Nat} {x : Us} (hj : M[j]? = some x) : ∃ b off, a = some ⟨b, off, none⟩ ∧ b < w.heap.size ∧
    w.cell? ⟨b, off + j * 4, none⟩ = some (.bool x.wr) ∧ w.cell? ⟨b, off + j * 4 + 1, none⟩ = some (.string x.val) ∧ w.cell? ⟨b, off + j * 4 + 2, none⟩ = some (.int .i64 x.from_) ∧ w.cell? ⟨b, off + j * 4 + 3, none⟩ = some (.int .i64 x.til) := by
  obtain ⟨-, b, off, rfl, hb, hc⟩ := h.at_ hj
  exact ⟨b, off, rfl, hb, hc 0 _ rfl, hc 1 _ rfl, hc 2 _ rfl, hc 3 _ rfl⟩
def isRd (u : Us) : Bool := !u.wr
theorem find_noneU {M : List Us} {j : Nat} {x : Us} (h : ∀ y ∈ M.take j, isRd y = false) (hx : M[j]? = some x) (hp : isRd x = false) : ∀ y ∈ M.take (j + 1), isRd y = false := by
  rw [take_next hx]
  intro y hy
  rcases List.mem_append.1 hy with q | q
  · exact h y q
  · rw [List.mem_singleton.1 q]; exact hp
def PIdxP (M : List Us) (w : World) (e : Ending) (w' : World) : Prop :=
  ((∃ (k : Nat) (x : Us), e = .returned (.int .i64 k) ∧ M[k]? = some x ∧ isRd x = true ∧ ∀ y ∈ M.take k, isRd y = false) ∨ e = .returned (.int .i64 (-1)) ∧ ∀ y ∈ M, isRd y = false) ∧ Below w.heap.size w w'
set_option maxHeartbeats 3200000 in
set_option maxRecDepth 100000 in
theorem pidx (M : List Us) (v : Value) (w : World) (hM : Elts w Us.c 4 v M) :
    Calls Try.prog 99 #[v, .func (.func 77) #[] #[]] w (PIdxP M w) := by
  obtain ⟨a, cap, rfl, hlc, hcm⟩ := elts_len hM
  unfold maxLen at hcm
  unfold PIdxP
  have eg : ∀ args w, (callFunc 77 args).run Try.prog w = .ok (.enter 77 args) w := fun _ _ => by rfl
  obtain ⟨n, hn⟩ : ∃ n, M.length = n := ⟨_, rfl⟩
  have HM := Lib.hid (And.intro hM hn)
  rw [hn] at hlc ⊢
  have hx' : (n : Int) ≤ 9223372036854775807 := by omega
  clear hM hn hlc hcm
  go_enter Try.func99, Try.ntmps99
  go_wp2_with fail
  go_loopw [8] (fun i wr => ∃ j : Nat, j ≤ n ∧ i = .int .i64 j ∧ Hid (Below w.heap.size w wr ∧ ∀ y ∈ M.take j, isRd y = false)) (fun i _ => n - (intOf i).toNat)
  case atStart => exact ⟨0, Nat.zero_le _, rfl, Lib.hid ⟨Below.refl _ _, by simp⟩⟩
  case round =>
    obtain ⟨j, hj, rfl, HR⟩ := hrel
    by_cases hlt : j < n
    · obtain ⟨x, hx⟩ : ∃ x, M[j]? = some x := ⟨_, List.getElem?_eq_getElem (by have := HM.out.2; omega)⟩
      obtain ⟨b, off, rfl, hb, k0, k1, k2, k3⟩ := us_cells (HM.out.1.below HR.out.1) hx
      have cf := pof1 x wr
      have HX := Lib.hid hx
      obtain ⟨p, hp⟩ : ∃ p, x.wr = p := ⟨_, rfl⟩
      have HP := Lib.hid hp
      rw [hp] at cf k0
      clear hx hp hb
      go_wp2_with fail
      refine Calls.mono cf ?_
      rintro e w2 ⟨rfl, hb2⟩
      have HB := Lib.hid (HR.out.1.trans (hb2.mono HR.out.1.size))
      clear cf k0 k1 k2 k3 hb2
      cases p
      · go_wp2_with fail
        go_ret
        exact ⟨.inl ⟨j, x, rfl, HX.out, by simp [isRd, HP.out], HR.out.2⟩, HB.out⟩
      · have HF := Lib.hid (show Below w.heap.size w w2 ∧ ∀ y ∈ M.take (j + 1), isRd y = false from ⟨HB.out, find_noneU HR.out.2 HX.out (by simp [isRd, HP.out])⟩)
        go_wp2_with fail
        go_roundw
        case rel => exact ⟨j + 1, by omega, by go_num, HF⟩
        case measure => exact meas_p n j hlt
    · obtain rfl : j = n := by omega
      go_wp2_with fail
      go_ret
      refine ⟨.inr ⟨rfl, ?_⟩, HR.out.1⟩
      have := HR.out.2
      rwa [List.take_of_length_le (by have := HM.out.2; omega)] at this
theorem uC_set : ∀ (M : List Us) (i : Nat) (u : Us), i < M.length → uC (M.set i u) = ((((uC M).set (i * 4) (.bool u.wr)).set (i * 4 + 1) (.string u.val)).set (i * 4 + 2) (.int .i64 u.from_)).set (i * 4 + 3) (.int .i64 u.til)
  | [], i, u, h => by simp at h
  | x :: r, 0, u, h => by simp [uC, Us.c]
  | x :: r, i + 1, u, h => by
    have ih := uC_set r i u (by simpa using h)
    have e : ∀ (l : List Value) (k : Nat) (v : Value), (x.c ++ l).set (i * 4 + 4 + k) v = x.c ++ l.set (i * 4 + k) v := fun l k v => by
      rw [List.set_append_right _ _ (by simp [Us.c]; omega)]
      congr 2
      simp [Us.c]
      omega
    rw [List.set_cons_succ]
    simp only [uC, List.flatMap_cons] at ih ⊢
    rw [ih, show (i + 1) * 4 = i * 4 + 4 + 0 by omega]
    rw [show i * 4 + 4 + 0 + 1 = i * 4 + 4 + 1 by omega, show i * 4 + 4 + 0 + 2 = i * 4 + 4 + 2 by omega, show i * 4 + 4 + 0 + 3 = i * 4 + 4 + 3 by omega]
    rw [e, e, e, e]
    rfl
end Go.Proofs.Ytjaaddjbmimjoaa
