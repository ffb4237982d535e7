/-
  Configurations: which may be; all nodes of one; the waking call of layer 11.
-/
import Derived.Test.YtkdmnhmlkcejfaaConfC
namespace Go.Proofs.Ytkdmnhmlkcejfaa
open Go.RowKit
set_option linter.unusedVariables false

set_option maxHeartbeats 3200000 in
set_option maxRecDepth 20000 in
theorem clist_any (v : Value) (l : List Int) (w : World) (hv : SR w v 1 l.length (nCells l)) : Calls Try.prog 77 #[v] w fun e w' => e = .returned (.bool (nodesB l 0)) ∧ w = w' := by
  obtain ⟨ad, cap, rfl, hlc, hcm⟩ := hv.form
  unfold maxLen at hcm
  have HV := Lib.hid hv
  clear hv
  by_cases h3 : 3 < l.length
  · have hb : nodesB l 0 = false := by simp [nodesB]; omega
    rw [hb]
    clear hb
    go_enter Try.func77, Try.ntmps77
    go_wp2_with fail
    go_ret
    exact ⟨rfl, rfl⟩
  · have h3' : l.length ≤ 3 := by omega
    go_enter Try.func77, Try.ntmps77
    go_wp2_with fail
    go_loop [10] (fun i => ∃ k : Nat, k ≤ l.length ∧ i = .int .i64 k ∧ OkAt l k) (fun i => l.length - (intOf i).toNat)
    case atStart => exact ⟨0, Nat.zero_le _, rfl, rfl⟩
    case round =>
      obtain ⟨k, hk, rfl, hok⟩ := hrel
      have HK := Lib.hid hok
      clear hok h3
      by_cases hlt : k < l.length
      · obtain ⟨b, off, rfl, hb, hcell⟩ := HV.out.int (by omega)
        have hc := hcell k hlt
        have hfr := (HV.out.front k (by omega))
        rw [nCells_take] at hfr
        obtain ⟨x, hx⟩ : ∃ x, x = l.getD k 0 := ⟨_, rfl⟩
        rw [← hx] at hc
        have HX := Lib.hid hx
        have hlk : (l.take k).length = k := by rw [List.length_take]; omega
        have ch := contains_any (.slice (some ⟨b, off, none⟩) k cap) (l.take k) x w (by rw [hlk]; exact hfr)
        have cn := fun w => cnode_any x w
        have hs1 : okK l (k + 1) = (okK l k && decide (0 ≤ x ∧ x ≤ 4) && !decide (x ∈ l.take k)) := by rw [hx]; rfl
        have HS := Lib.hid hs1
        have hck : k ≤ cap := by omega
        clear hcell hx hfr hlk hs1
        by_cases hr : 0 ≤ x ∧ x ≤ 4
        · simp only [hr, and_self, decide_true] at cn HS
          obtain ⟨m, hm⟩ : ∃ m, m = decide (x ∈ l.take k) := ⟨_, rfl⟩
          rw [← hm] at HS ch
          clear hm
          cases m
          · have HO := Lib.hid (show okK l (k + 1) = true by rw [HS.out, HK.out]; rfl)
            go_wp2_with fail
            refine Calls.mono (cn _) ?_
            rintro e w1 ⟨rfl, rfl⟩
            go_wp2_with fail
            refine Calls.mono ch ?_
            rintro e w1 ⟨rfl, rfl⟩
            go_wp2_with fail
            go_round
            case rel => exact ⟨k + 1, by omega, by go_num, HO.out⟩
            case measure => simp [intOf]; omega
          · have HB := Lib.hid (bad_nodes l 0 k hlt (by rw [HS.out]; simp))
            go_wp2_with fail
            refine Calls.mono (cn _) ?_
            rintro e w1 ⟨rfl, rfl⟩
            go_wp2_with fail
            refine Calls.mono ch ?_
            rintro e w1 ⟨rfl, rfl⟩
            go_wp2_with fail
            go_ret
            exact ⟨ret_bool HB.out.symm, rfl⟩
        · have HB := Lib.hid (bad_nodes l 0 k hlt (by rw [HS.out]; simp [hr]))
          simp only [hr, decide_false] at cn
          clear hr
          go_wp2_with fail
          refine Calls.mono (cn _) ?_
          rintro e w1 ⟨rfl, rfl⟩
          go_wp2_with fail
          go_ret
          exact ⟨ret_bool HB.out.symm, rfl⟩
      · obtain rfl : k = l.length := by omega
        have HN := Lib.hid (show nodesB l 0 = true by simp [nodesB, show okK l l.length = true from HK.out, h3'])
        clear hlt
        go_wp2_with fail
        go_ret
        exact ⟨ret_bool HN.out.symm, rfl⟩
theorem cnone_no (e b k : Int) (ma ca : Option Addr) (ml mq cl cq : Nat) (w : World) (he : (e == 0) = false) : Calls Try.prog 60 #[.agg (confA e b k (.slice ma ml mq) (.slice ca cl cq))] w fun ev w' => ev = .returned (.bool false) ∧ Below w.heap.size w w' := by
  unfold confA
  go_enter Try.func60, Try.ntmps60
  go_wp2_with fail
  go_ret
  exact ⟨rfl, by go_grown⟩
theorem clists_yes (u v : Value) (l m : List Int) (w : World) (hu : SR w u 1 l.length (nCells l)) (hv : SR w v 1 m.length (nCells m)) (h1 : nodesB l 0 = true) (h2 : nodesB m 0 = true) (h3 : 0 < m.length) :
    Calls Try.prog 68 #[u, v] w fun e w' => e = .returned (.bool true) ∧ w = w' := by
  have c1 := clist_any u l w hu
  have c2 := clist_any v m w hv
  obtain ⟨a, p, rfl, -, -⟩ := hu.form
  obtain ⟨a', p', rfl, -, -⟩ := hv.form
  rw [h1] at c1
  rw [h2] at c2
  clear hu hv h1 h2
  go_enter Try.func68, Try.ntmps68
  go_wp2_with fail
  refine Calls.mono c1 ?_
  rintro e w1 ⟨rfl, rfl⟩
  go_wp2_with fail
  refine Calls.mono c2 ?_
  rintro e w1 ⟨rfl, rfl⟩
  go_wp2_with fail
  go_ret
  exact ⟨rfl, rfl⟩
theorem cmay_yes (w : World) (v : Value) (hv : SR w v 1 2 (nCells [3, 1])) : Calls Try.prog 61 #[.agg (confA 1 5 1 (.slice none 0 0) v)] w fun e w' => e = .returned (.bool true) ∧ Below w.heap.size w w' := by
  obtain ⟨a, p, rfl, -, -⟩ := hv.form
  have cn := fun w => cnone_no 1 5 1 none a 0 0 2 p w (by decide)
  have cg := fun w => cgate_any 5 w
  simp at cg
  have HV := Lib.hid hv
  clear hv
  unfold confA
  go_enter Try.func61, Try.ntmps61
  go_wp2_with fail
  refine Calls.mono (cn _) ?_
  rintro e w1 ⟨rfl, hb1⟩
  have x1 := below_at hb1 (by simp) (heap_alloc_self w _)
  have e1 : Below w.heap.size w w1 := ((Below.refl _ _).alloc (Nat.le_refl _) _).trans (hb1.mono (by simp))
  have l1 := HV.out.below e1
  have cl := clists_yes (.slice none 0 0) (.slice a 2 p) [] [3, 1] w1 (SR.nil_ _ _) l1 (by decide) (by decide) (by decide)
  have c0 : w1.cell? ⟨w.heap.size, 0, none⟩ = some (.int .i64 1) := by simp [World.cell?, x1]
  have c1 : w1.cell? ⟨w.heap.size, 1, none⟩ = some (.int .i64 5) := by simp [World.cell?, x1]
  have c2 : w1.cell? ⟨w.heap.size, 2, none⟩ = some (.int .i64 1) := by simp [World.cell?, x1]
  have c3 : w1.cell? ⟨w.heap.size, 3, none⟩ = some (.slice none 0 0) := by simp [World.cell?, x1]
  have c4 : w1.cell? ⟨w.heap.size, 4, none⟩ = some (.slice a 2 p) := by simp [World.cell?, x1]
  have E1 := Lib.hid e1
  clear hb1 x1 e1 l1 cn
  go_wp2_with fail
  refine Calls.mono (cg _) ?_
  rintro e w2 ⟨rfl, rfl⟩
  go_wp2_with fail
  refine Calls.mono cl ?_
  rintro e w2 ⟨rfl, rfl⟩
  go_wp2_with fail
  go_ret
  exact ⟨rfl, E1.out⟩
end Go.Proofs.Ytkdmnhmlkcejfaa
