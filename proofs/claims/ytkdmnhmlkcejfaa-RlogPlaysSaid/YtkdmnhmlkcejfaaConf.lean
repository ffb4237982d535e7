/-
  Lists of nodes, as the document has them: has, nodes, Lists.
-/
import Derived.Test.YtkdmnhmlkcejfaaSR
import Derived.Test.YtkdmnhmlkcejfaaMask
import Derived.WalkSpells
import Derived.WalkLawsBesides
import Derived.BigQuiet
import Derived.BigRegion
import Derived.Deep.QuietTactic
import Derived.Deep.RegionWith
import Derived.Deep.RegionHeld3
import Derived.StillTailTactics
import Derived.Deep.DeepCutAuto
import Derived.Handy
import Derived.IntWalk
namespace Go.Proofs.Ytkdmnhmlkcejfaa
open Go.RowKit
set_option linter.unusedVariables false

theorem mem_take_succ (l : List Int) (k : Nat) (hk : k < l.length) (n : Int) : n ∈ l.take (k + 1) ↔ n ∈ l.take k ∨ n = l.getD k 0 := by
  have e : l.getD k 0 = l[k] := by simp [List.getD, hk]
  rw [List.take_succ_eq_append_getElem hk, e]
  simp only [List.mem_append, List.mem_singleton]
def NotIn (n : Int) (l : List Int) : Prop := n ∉ l
theorem has_any (v : Value) (l : List Int) (n : Int) (w : World) (hv : SR w v 1 l.length (nCells l)) : Calls Try.prog 83 #[v, .int .i64 n] w fun e w' => e = .returned (.bool (decide (n ∈ l))) ∧ w = w' := by
  obtain ⟨ad, cap, rfl, hlc, hcm⟩ := hv.form
  unfold maxLen at hcm
  have HV := Lib.hid hv
  clear hv
  obtain ⟨r, hr⟩ : ∃ r, r = decide (n ∈ l) := ⟨_, rfl⟩
  rw [← hr]
  have HR := Lib.hid hr
  clear hr
  go_enter Try.func83, Try.ntmps83
  go_wp2_with fail
  go_loop [5] (fun i => ∃ k : Nat, k ≤ l.length ∧ i = .int .i64 k ∧ NotIn n (l.take k)) (fun i => l.length - (intOf i).toNat)
  case atStart => exact ⟨0, Nat.zero_le _, rfl, by simp [NotIn]⟩
  case round =>
    obtain ⟨k, hk, rfl, hno⟩ := hrel
    have HN := Lib.hid hno
    clear hno
    by_cases hlt : k < l.length
    · obtain ⟨b, off, rfl, hb, hcell⟩ := HV.out.int (by omega)
      have hc := hcell k hlt
      obtain ⟨x, hx⟩ : ∃ x, x = l.getD k 0 := ⟨_, rfl⟩
      rw [← hx] at hc
      have HX := Lib.hid hx
      clear hcell hx
      by_cases he : x = n
      · subst he
        go_wp2_with fail
        go_ret
        refine ⟨ret_bool ?_, rfl⟩
        rw [HR.out]
        symm
        rw [decide_eq_true_eq]
        have : x ∈ l.take (k + 1) := (mem_take_succ l k hlt x).2 (.inr HX.out)
        exact List.mem_of_mem_take this
      · go_wp2_with fail
        go_round
        case rel =>
          refine ⟨k + 1, by omega, by go_num, fun h => ?_⟩
          rcases (mem_take_succ l k hlt n).1 h with h | h
          · exact HN.out h
          · exact he (HX.out.trans h.symm)
        case measure => simp [intOf]; omega
    · obtain rfl : k = l.length := by omega
      clear hlt
      go_wp2_with fail
      go_ret
      refine ⟨ret_bool ?_, rfl⟩
      rw [HR.out]
      symm
      rw [decide_eq_false_iff_not]
      have := HN.out
      rw [NotIn, List.take_length] at this
      exact this
/-- the first k are nodes, each once -/
def okK (l : List Int) : Nat → Bool
  | 0 => true
  | k + 1 => okK l k && decide (0 ≤ l.getD k 0 ∧ l.getD k 0 ≤ 4) && !decide (l.getD k 0 ∈ l.take k)
theorem okK_le (l : List Int) (k j : Nat) (hj : j ≤ k) (h : okK l k = true) : okK l j = true := by
  induction k with
  | zero => rw [show j = 0 by omega]; rfl
  | succ k ih =>
    by_cases e : j = k + 1
    · rw [e]; exact h
    · simp only [okK, Bool.and_eq_true] at h
      exact ih (by omega) h.1.1
def nodesB (l : List Int) (least : Nat) : Bool := okK l l.length && decide (least ≤ l.length) && decide (l.length ≤ 3)
theorem bad_nodes (l : List Int) (least k : Nat) (hk : k < l.length) (h : okK l (k + 1) = false) : nodesB l least = false := by
  have : okK l l.length = false := by
    cases e : okK l l.length
    · rfl
    · rw [okK_le l l.length (k + 1) (by omega) e] at h; exact h
  simp [nodesB, this]
def OkAt (l : List Int) (k : Nat) : Prop := okK l k = true
def SameHeap (w wr : World) : Prop := wr.heap = w.heap ∧ wr.os = w.os ∧ wr.tape = w.tape ∧ wr.output = w.output
theorem SameHeap.drew {w wr : World} (h : SameHeap w wr) (n : Nat) : SameHeap w (wr.drewN n) := h
theorem SameHeap.drew1 {w wr : World} (h : SameHeap w wr) : SameHeap w wr.drew := h
theorem cell_same {w wr : World} (h : SameHeap w wr) (b o : Nat) : wr.cell? ⟨b, o, none⟩ = w.cell? ⟨b, o, none⟩ := by simp only [World.cell?, h.1]
theorem SameHeap.below {w wr : World} (h : SameHeap w wr) : Below w.heap.size w wr := ⟨h.2.1, h.2.2.1, h.2.2.2, by rw [h.1]; exact Nat.le_refl _, fun k _ => by rw [h.1]⟩
theorem below_same {B : Nat} {x w wr : World} (h : Below B x w) (hs : SameHeap w wr) : Below B x wr :=
  ⟨hs.2.1.trans h.os, hs.2.2.1.trans h.tape, hs.2.2.2.trans h.output, by rw [hs.1]; exact h.size, fun k hk => by rw [hs.1]; exact h.block k hk⟩
theorem SR.same {w wr : World} {v : Value} {size n : Nat} {xs : List Value} (h : SR w v size n xs) (hs : SameHeap w wr) : SR wr v size n xs := h.below hs.below
theorem same_trans {a b c : World} (h : SameHeap a b) (k : SameHeap b c) : SameHeap a c := ⟨k.1.trans h.1, k.2.1.trans h.2.1, k.2.2.1.trans h.2.2.1, k.2.2.2.trans h.2.2.2⟩
def BoolPost (r : Bool) (w : World) (e : Ending) (w' : World) : Prop := e = .returned (.bool r) ∧ ∃ n, w' = w.drewN n
theorem BoolPost.heap {r : Bool} {w w' : World} {e : Ending} (h : BoolPost r w e w') : e = .returned (.bool r) ∧ SameHeap w w' := by
  obtain ⟨he, n, rfl⟩ := h
  exact ⟨he, rfl, rfl, rfl, rfl⟩
theorem quiet_l {P : Program} {f : FuncId} {args : Array Value} {w : World} {a n : Nat} {v : Value} (h : Calls P f args (w.drewN (a + n)) fun e w' => e = .returned v ∧ w.drewN (a + n) = w') :
    Calls P f args (w.drewN (a + n)) fun e w'' => e = .returned v ∧ ∃ m, w'' = w.drewN (a + m) := h.mono fun _ _ ⟨he, hm⟩ => ⟨he, n, hm.symm⟩
set_option maxHeartbeats 3200000 in
set_option maxRecDepth 20000 in
theorem nodes_any (v : Value) (l : List Int) (least : Nat) (w : World) (hv : SR w v 1 l.length (nCells l)) (hl : least ≤ 1) : Calls Try.prog 76 #[v, .int .i64 least] w (BoolPost (nodesB l least) w) := by
  obtain ⟨ad, cap, rfl, hlc, hcm⟩ := hv.form
  unfold maxLen at hcm
  have HV := Lib.hid hv
  clear hv
  go_enter Try.func76, Try.ntmps76
  go_wp2_with fail
  go_loopw [5] (fun i wr => ∃ k t : Nat, k ≤ l.length ∧ i = .int .i64 k ∧ OkAt l k ∧ wr = w.drewN t) (fun i _ => l.length - (intOf i).toNat)
  case atStart => exact ⟨0, 0, Nat.zero_le _, rfl, rfl, rfl⟩
  case round =>
    obtain ⟨k, t, hk, rfl, hok, rfl⟩ := hrel
    have HK := Lib.hid hok
    clear hok
    by_cases hlt : k < l.length
    · obtain ⟨b, off, rfl, hb, hcell⟩ := HV.out.int (by omega)
      have hc := hcell k hlt
      have hfr := (HV.out.front k (by omega)).same (show SameHeap w (w.drewN t) from ⟨rfl, rfl, rfl, rfl⟩)
      rw [nCells_take] at hfr
      obtain ⟨x, hx⟩ : ∃ x, x = l.getD k 0 := ⟨_, rfl⟩
      rw [← hx] at hc
      have HX := Lib.hid hx
      have hlk : (l.take k).length = k := by rw [List.length_take]; omega
      have ch : ∀ m, Calls Try.prog 83 #[.slice (some ⟨b, off, none⟩) k cap, .int .i64 x] (w.drewN m) fun e w' => e = .returned (.bool (decide (x ∈ l.take k))) ∧ w.drewN m = w' := fun m => has_any _ (l.take k) x (w.drewN m) (by rw [hlk]; exact hfr.same (show SameHeap (w.drewN t) (w.drewN m) from ⟨rfl, rfl, rfl, rfl⟩))
      have hs1 : okK l (k + 1) = (okK l k && decide (0 ≤ x ∧ x ≤ 4) && !decide (x ∈ l.take k)) := by rw [hx]; rfl
      have HS := Lib.hid hs1
      have hck : k ≤ cap := by omega
      clear hcell hx hfr hlk hs1
      have hcase : x < 0 ∨ (0 ≤ x ∧ 4 < x) ∨ (0 ≤ x ∧ x ≤ 4) := by omega
      rcases hcase with h | ⟨h, h'⟩ | ⟨h, h'⟩
      · have hd : decide (x < 0) = true := by simpa using h
        have hbad := bad_nodes l least k hlt (by rw [HS.out]; simp; omega)
        have HB := Lib.hid hbad
        clear hbad
        go_wp2_with fail
        go_quiet (fail)
        go_wp2_with fail
        go_ret
        exact ⟨ret_bool HB.out.symm, _, World.drewN_drewN _ _ _⟩
      · have hd : decide (x < 0) = false := by simp; omega
        have hd2 : decide (4 < x) = true := by simpa using h'
        have hbad := bad_nodes l least k hlt (by rw [HS.out]; simp; omega)
        have HB := Lib.hid hbad
        clear hbad
        go_wp2_with fail
        go_quiet (fail)
        go_wp2_with fail
        go_ret
        exact ⟨ret_bool HB.out.symm, _, World.drewN_drewN _ _ _⟩
      · have hd : decide (x < 0) = false := by simp; omega
        have hd2 : decide (4 < x) = false := by simp; omega
        obtain ⟨m, hm⟩ : ∃ m, m = decide (x ∈ l.take k) := ⟨_, rfl⟩
        rw [← hm] at HS
        simp only [← hm] at ch
        clear hm
        cases m
        · have hok : okK l (k + 1) = true := by rw [HS.out, HK.out]; simp; omega
          have HO := Lib.hid hok
          clear hok
          go_wp2_with fail
          go_quiet ((go_at_call 83; exact quiet_l (ch _)))
          go_wp2_with fail
          go_roundw
          case rel => exact ⟨k + 1, _, by omega, by go_num, HO.out, rfl⟩
          case measure => simp [intOf]; omega
        · have hbad := bad_nodes l least k hlt (by rw [HS.out]; simp)
          have HB := Lib.hid hbad
          clear hbad
          go_wp2_with fail
          go_quiet ((go_at_call 83; exact quiet_l (ch _)))
          go_wp2_with fail
          go_ret
          exact ⟨ret_bool HB.out.symm, _, World.drewN_drewN _ _ _⟩
    · obtain rfl : k = l.length := by omega
      have hnb : nodesB l least = (decide (least ≤ l.length) && decide (l.length ≤ 3)) := by simp [nodesB, show okK l l.length = true from HK.out]
      have HN := Lib.hid hnb
      clear hlt hnb
      have h3 : l.length < least ∨ (least ≤ l.length ∧ l.length ≤ 3) ∨ (least ≤ l.length ∧ 3 < l.length) := by omega
      rcases h3 with h | ⟨h, h'⟩ | ⟨h, h'⟩
      · have e : (decide (least ≤ l.length) && decide (l.length ≤ 3)) = false := by simp; omega
        rw [e] at HN
        go_wp2_with fail
        go_ret
        exact ⟨ret_bool (by rw [HN.out]; try simp), _, rfl⟩
      · have e : (decide (least ≤ l.length) && decide (l.length ≤ 3)) = true := by simp; omega
        rw [e] at HN
        go_wp2_with fail
        go_ret
        exact ⟨ret_bool (by rw [HN.out]; simp; omega), _, rfl⟩
      · have e : (decide (least ≤ l.length) && decide (l.length ≤ 3)) = false := by simp; omega
        rw [e] at HN
        go_wp2_with fail
        go_ret
        exact ⟨ret_bool (by rw [HN.out]; simp; omega), _, rfl⟩
theorem lists_any (u v : Value) (l m : List Int) (w : World) (hu : SR w u 1 l.length (nCells l)) (hv : SR w v 1 m.length (nCells m)) : Calls Try.prog 66 #[u, v] w (BoolPost (nodesB l 0 && nodesB m 1) w) := by
  have c1 := nodes_any u l 0 w hu (by omega)
  have c2 : ∀ n, Calls Try.prog 76 #[v, .int .i64 ((1 : Nat) : Int)] (w.drewN n) (BoolPost (nodesB m 1) (w.drewN n)) := fun n => nodes_any v m 1 _ (hv.same (show SameHeap w (w.drewN n) from ⟨rfl, rfl, rfl, rfl⟩)) (by omega)
  generalize nodesB l 0 = a at *
  generalize nodesB m 1 = b at *
  go_enter Try.func66, Try.ntmps66
  go_wp2_with fail
  refine Calls.mono c1 ?_
  rintro e w1 ⟨rfl, n, rfl⟩
  cases a
  · go_wp2_with fail
    go_ret
    exact ⟨rfl, n, rfl⟩
  · go_wp2_with fail
    refine Calls.mono (c2 n) ?_
    rintro e w2 ⟨rfl, n2, rfl⟩
    go_wp2_with fail
    go_ret
    exact ⟨ret_bool (by simp), n + n2, rfl⟩
end Go.Proofs.Ytkdmnhmlkcejfaa
