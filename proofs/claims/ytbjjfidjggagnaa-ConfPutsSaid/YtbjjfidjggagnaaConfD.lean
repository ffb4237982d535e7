/-
  Configurations: which may be; all nodes of one; the waking call of layer 11.
-/
import Derived.Test.YtbjjfidjggagnaaConfC
namespace Go.Proofs.Ytbjjfidjggagnaa
open Go.RowKit
set_option linter.unusedVariables false

set_option maxHeartbeats 3200000 in
set_option maxRecDepth 20000 in
theorem clist_any (v : Value) (l : List Int) (w : World) (hv : SR w v 1 l.length (nCells l)) : Calls Try.prog 66 #[v] w fun e w' => e = .returned (.bool (nodesB l 0)) ∧ w = w' := by
  obtain ⟨ad, cap, rfl, hlc, hcm⟩ := hv.form
  unfold maxLen at hcm
  have HV := Lib.hid hv
  clear hv
  by_cases h3 : 3 < l.length
  · have hb : nodesB l 0 = false := by simp [nodesB]; omega
    rw [hb]
    clear hb
    go_enter Try.func66, Try.ntmps66
    go_wp2_with fail
    go_ret
    exact ⟨rfl, rfl⟩
  · have h3' : l.length ≤ 3 := by omega
    go_enter Try.func66, Try.ntmps66
    go_wp2_with fail
    go_loop [10] (fun i => ∃ k : Nat, k ≤ l.length ∧ i = .int .i64 k ∧ OkAt l k) (fun i => l.length - (intOf i).toNat)
    case atStart => exact ⟨0, Nat.zero_le _, rfl, rfl⟩
    case round =>
      obtain ⟨k, hk, rfl, hok⟩ := hrel
      have HK := Lib.hid hok
      clear hok h3
      by_cases hlt : k < l.length
      · obtain ⟨b, off, rfl, hb, hcell⟩ := HV.out.int (by omega)
        have hc := hcell k hlt
        have hfr := (HV.out.front k (by omega))
        rw [nCells_take] at hfr
        obtain ⟨x, hx⟩ : ∃ x, x = l.getD k 0 := ⟨_, rfl⟩
        rw [← hx] at hc
        have HX := Lib.hid hx
        have hlk : (l.take k).length = k := by rw [List.length_take]; omega
        have ch := contains_any (.slice (some ⟨b, off, none⟩) k cap) (l.take k) x w (by rw [hlk]; exact hfr)
        have cn := fun w => cnode_any x w
        have hs1 : okK l (k + 1) = (okK l k && decide (0 ≤ x ∧ x ≤ 4) && !decide (x ∈ l.take k)) := by rw [hx]; rfl
        have HS := Lib.hid hs1
        have hck : k ≤ cap := by omega
        clear hcell hx hfr hlk hs1
        by_cases hr : 0 ≤ x ∧ x ≤ 4
        · simp only [hr, and_self, decide_true] at cn HS
          obtain ⟨m, hm⟩ : ∃ m, m = decide (x ∈ l.take k) := ⟨_, rfl⟩
          rw [← hm] at HS ch
          clear hm
          cases m
          · have HO := Lib.hid (show okK l (k + 1) = true by rw [HS.out, HK.out]; rfl)
            go_wp2_with fail
            refine Calls.mono (cn _) ?_
            rintro e w1 ⟨rfl, rfl⟩
            go_wp2_with fail
            refine Calls.mono ch ?_
            rintro e w1 ⟨rfl, rfl⟩
            go_wp2_with fail
            go_round
            case rel => exact ⟨k + 1, by omega, by go_num, HO.out⟩
            case measure => simp [intOf]; omega
          · have HB := Lib.hid (bad_nodes l 0 k hlt (by rw [HS.out]; simp))
            go_wp2_with fail
            refine Calls.mono (cn _) ?_
            rintro e w1 ⟨rfl, rfl⟩
            go_wp2_with fail
            refine Calls.mono ch ?_
            rintro e w1 ⟨rfl, rfl⟩
            go_wp2_with fail
            go_ret
            exact ⟨ret_bool HB.out.symm, rfl⟩
        · have HB := Lib.hid (bad_nodes l 0 k hlt (by rw [HS.out]; simp [hr]))
          simp only [hr, decide_false] at cn
          clear hr
          go_wp2_with fail
          refine Calls.mono (cn _) ?_
          rintro e w1 ⟨rfl, rfl⟩
          go_wp2_with fail
          go_ret
          exact ⟨ret_bool HB.out.symm, rfl⟩
      · obtain rfl : k = l.length := by omega
        have HN := Lib.hid (show nodesB l 0 = true by simp [nodesB, show okK l l.length = true from HK.out, h3'])
        clear hlt
        go_wp2_with fail
        go_ret
        exact ⟨ret_bool HN.out.symm, rfl⟩
theorem cnone_no (e b k : Int) (ma ca : Option Addr) (ml mq cl cq : Nat) (w : World) (he : (e == 0) = false) : Calls Try.prog 12 #[.agg (confA e b k (.slice ma ml mq) (.slice ca cl cq))] w fun ev w' => ev = .returned (.bool false) ∧ Below w.heap.size w w' := by
  unfold confA
  go_enter Try.func12, Try.ntmps12
  go_wp2_with fail
  go_ret
  exact ⟨rfl, by go_grown⟩
theorem clists_yes (u v : Value) (l m : List Int) (w : World) (hu : SR w u 1 l.length (nCells l)) (hv : SR w v 1 m.length (nCells m)) (h1 : nodesB l 0 = true) (h2 : nodesB m 0 = true) (h3 : 0 < m.length) :
    Calls Try.prog 14 #[u, v] w fun e w' => e = .returned (.bool true) ∧ w = w' := by
  have c1 := clist_any u l w hu
  have c2 := clist_any v m w hv
  obtain ⟨a, p, rfl, -, -⟩ := hu.form
  obtain ⟨a', p', rfl, -, -⟩ := hv.form
  rw [h1] at c1
  rw [h2] at c2
  clear hu hv h1 h2
  go_enter Try.func14, Try.ntmps14
  go_wp2_with fail
  refine Calls.mono c1 ?_
  rintro e w1 ⟨rfl, rfl⟩
  go_wp2_with fail
  refine Calls.mono c2 ?_
  rintro e w1 ⟨rfl, rfl⟩
  go_wp2_with fail
  go_ret
  exact ⟨rfl, rfl⟩
theorem cmay_yes (w : World) (v : Value) (hv : SR w v 1 2 (nCells [3, 1])) : Calls Try.prog 10 #[.agg (confA 1 5 1 (.slice none 0 0) v)] w fun e w' => e = .returned (.bool true) ∧ Below w.heap.size w w' := by
  obtain ⟨a, p, rfl, -, -⟩ := hv.form
  have cn := fun w => cnone_no 1 5 1 none a 0 0 2 p w (by decide)
  have cg := fun w => cgate_any 5 w
  simp at cg
  have HV := Lib.hid hv
  clear hv
  unfold confA
  go_enter Try.func10, Try.ntmps10
  go_wp2_with fail
  refine Calls.mono (cn _) ?_
  rintro e w1 ⟨rfl, hb1⟩
  have x1 := below_at hb1 (by simp) (heap_alloc_self w _)
  have e1 : Below w.heap.size w w1 := ((Below.refl _ _).alloc (Nat.le_refl _) _).trans (hb1.mono (by simp))
  have l1 := HV.out.below e1
  have cl := clists_yes (.slice none 0 0) (.slice a 2 p) [] [3, 1] w1 (SR.nil_ _ _) l1 (by decide) (by decide) (by decide)
  have c0 : w1.cell? ⟨w.heap.size, 0, none⟩ = some (.int .i64 1) := by simp [World.cell?, x1]
  have c1 : w1.cell? ⟨w.heap.size, 1, none⟩ = some (.int .i64 5) := by simp [World.cell?, x1]
  have c2 : w1.cell? ⟨w.heap.size, 2, none⟩ = some (.int .i64 1) := by simp [World.cell?, x1]
  have c3 : w1.cell? ⟨w.heap.size, 3, none⟩ = some (.slice none 0 0) := by simp [World.cell?, x1]
  have c4 : w1.cell? ⟨w.heap.size, 4, none⟩ = some (.slice a 2 p) := by simp [World.cell?, x1]
  have E1 := Lib.hid e1
  clear hb1 x1 e1 l1 cn
  go_wp2_with fail
  refine Calls.mono (cg _) ?_
  rintro e w2 ⟨rfl, rfl⟩
  go_wp2_with fail
  refine Calls.mono cl ?_
  rintro e w2 ⟨rfl, rfl⟩
  go_wp2_with fail
  go_ret
  exact ⟨rfl, E1.out⟩
theorem conf_awake (w : World) : Calls Try.prog 9 #[] w fun x w' => x = .returned (.bool true) ∧ Below w.heap.size w w' := by
  have hs : ∀ wx, Below ((w.alloc (.cells #[.int .i64 3, .int .i64 1] 3)).alloc (.cells (confA 1 5 1 (.slice none 0 0) (.slice (some ⟨w.heap.size, 0, none⟩) 2 2)) 24)).heap.size ((w.alloc (.cells #[.int .i64 3, .int .i64 1] 3)).alloc (.cells (confA 1 5 1 (.slice none 0 0) (.slice (some ⟨w.heap.size, 0, none⟩) 2 2)) 24)) wx →
      SR wx (.slice (some ⟨w.heap.size, 0, none⟩) 2 2) 1 2 (nCells [3, 1]) ∧ wx.heap[w.heap.size + 1]? = some (.cells (confA 1 5 1 (.slice none 0 0) (.slice (some ⟨w.heap.size, 0, none⟩) 2 2)) 24) ∧ Below w.heap.size w wx := fun wx hb => by
    have t := two_blocks w (.cells #[.int .i64 3, .int .i64 1] 3) (.cells (confA 1 5 1 (.slice none 0 0) (.slice (some ⟨w.heap.size, 0, none⟩) 2 2)) 24)
    exact ⟨sr_block (cs := #[.int .i64 3, .int .i64 1]) (below_at hb (by simp; omega) t.1) rfl (by decide), below_at hb (by simp) t.2, (((Below.refl _ _).alloc (Nat.le_refl _) _).alloc (by simp) _).trans (hb.mono (by simp; omega))⟩
  unfold confA at hs
  have next : ∀ wx wy, Below wx.heap.size wx wy → (SR wx (.slice (some ⟨w.heap.size, 0, none⟩) 2 2) 1 2 (nCells [3, 1]) ∧ wx.heap[w.heap.size + 1]? = some (.cells #[.int .i64 1, .int .i64 5, .int .i64 1, .slice none 0 0, .slice (some ⟨w.heap.size, 0, none⟩) 2 2] 24) ∧ Below w.heap.size w wx) →
      (SR wy (.slice (some ⟨w.heap.size, 0, none⟩) 2 2) 1 2 (nCells [3, 1]) ∧ wy.heap[w.heap.size + 1]? = some (.cells #[.int .i64 1, .int .i64 5, .int .i64 1, .slice none 0 0, .slice (some ⟨w.heap.size, 0, none⟩) 2 2] 24) ∧ Below w.heap.size w wy) := fun wx wy hb h =>
    ⟨h.1.below hb, below_at hb (lt_heap h.2.1) h.2.1, h.2.2.trans (hb.mono h.2.2.size)⟩
  have NX := Lib.hid next
  have HS := Lib.hid (hs _ (Below.refl _ _))
  clear hs next
  have b1 : behindF 3 [3, 1] = 1 := by decide
  have b2 : behindF 1 [3, 1] = -1 := by decide
  have BB := Lib.hid (And.intro b1 b2)
  clear b1 b2
  go_enter Try.func9, Try.ntmps9
  go_upto_region 2 with fail
  generalize (w.alloc (.cells #[.int .i64 3, .int .i64 1] 3)).alloc (.cells #[.int .i64 1, .int .i64 5, .int .i64 1, .slice none 0 0, .slice (some ⟨w.heap.size, 0, none⟩) 2 2] 24) = w1 at *
  have S1 := HS
  have x1 := S1.out.2.1
  have d10 : w1.cell? ⟨w.heap.size + 1, 0, none⟩ = some (.int .i64 1) := by simp [World.cell?, x1]
  have d11 : w1.cell? ⟨w.heap.size + 1, 1, none⟩ = some (.int .i64 5) := by simp [World.cell?, x1]
  have d12 : w1.cell? ⟨w.heap.size + 1, 2, none⟩ = some (.int .i64 1) := by simp [World.cell?, x1]
  have d13 : w1.cell? ⟨w.heap.size + 1, 3, none⟩ = some (.slice none 0 0) := by simp [World.cell?, x1]
  have d14 : w1.cell? ⟨w.heap.size + 1, 4, none⟩ = some (.slice (some ⟨w.heap.size, 0, none⟩) 2 2) := by simp [World.cell?, x1]
  have cc1 := cmay_yes w1 _ S1.out.1
  unfold confA at cc1
  clear x1
  go_wp2_with fail
  refine Calls.mono cc1 ?_
  rintro v w2 ⟨rfl, hb⟩
  have S2 := Lib.hid (NX.out _ _ hb S1.out)
  clear hb d10 d11 d12 d13 d14 cc1 S1
  have x2 := S2.out.2.1
  have d20 : w2.cell? ⟨w.heap.size + 1, 0, none⟩ = some (.int .i64 1) := by simp [World.cell?, x2]
  have d21 : w2.cell? ⟨w.heap.size + 1, 1, none⟩ = some (.int .i64 5) := by simp [World.cell?, x2]
  have d22 : w2.cell? ⟨w.heap.size + 1, 2, none⟩ = some (.int .i64 1) := by simp [World.cell?, x2]
  have d23 : w2.cell? ⟨w.heap.size + 1, 3, none⟩ = some (.slice none 0 0) := by simp [World.cell?, x2]
  have d24 : w2.cell? ⟨w.heap.size + 1, 4, none⟩ = some (.slice (some ⟨w.heap.size, 0, none⟩) 2 2) := by simp [World.cell?, x2]
  have cc2 := behind_any 1 5 1 (.slice none 0 0) _ [3, 1] 3 w2 ⟨_, _, _, rfl⟩ S2.out.1
  unfold confA at cc2
  rw [BB.out.1] at cc2
  clear x2
  go_wp2_with fail
  refine Calls.mono cc2 ?_
  rintro v w3 ⟨rfl, hb⟩
  have S3 := Lib.hid (NX.out _ _ hb S2.out)
  clear hb d20 d21 d22 d23 d24 cc2 S2
  have x3 := S3.out.2.1
  have d30 : w3.cell? ⟨w.heap.size + 1, 0, none⟩ = some (.int .i64 1) := by simp [World.cell?, x3]
  have d31 : w3.cell? ⟨w.heap.size + 1, 1, none⟩ = some (.int .i64 5) := by simp [World.cell?, x3]
  have d32 : w3.cell? ⟨w.heap.size + 1, 2, none⟩ = some (.int .i64 1) := by simp [World.cell?, x3]
  have d33 : w3.cell? ⟨w.heap.size + 1, 3, none⟩ = some (.slice none 0 0) := by simp [World.cell?, x3]
  have d34 : w3.cell? ⟨w.heap.size + 1, 4, none⟩ = some (.slice (some ⟨w.heap.size, 0, none⟩) 2 2) := by simp [World.cell?, x3]
  have cc3 := behind_any 1 5 1 (.slice none 0 0) _ [3, 1] 1 w3 ⟨_, _, _, rfl⟩ S3.out.1
  unfold confA at cc3
  rw [BB.out.2] at cc3
  clear x3
  go_wp2_with fail
  refine Calls.mono cc3 ?_
  rintro v w4 ⟨rfl, hb⟩
  have S4 := Lib.hid (NX.out _ _ hb S3.out)
  clear hb d30 d31 d32 d33 d34 cc3 S3
  have x4 := S4.out.2.1
  have d40 : w4.cell? ⟨w.heap.size + 1, 0, none⟩ = some (.int .i64 1) := by simp [World.cell?, x4]
  have d41 : w4.cell? ⟨w.heap.size + 1, 1, none⟩ = some (.int .i64 5) := by simp [World.cell?, x4]
  have d42 : w4.cell? ⟨w.heap.size + 1, 2, none⟩ = some (.int .i64 1) := by simp [World.cell?, x4]
  have d43 : w4.cell? ⟨w.heap.size + 1, 3, none⟩ = some (.slice none 0 0) := by simp [World.cell?, x4]
  have d44 : w4.cell? ⟨w.heap.size + 1, 4, none⟩ = some (.slice (some ⟨w.heap.size, 0, none⟩) 2 2) := by simp [World.cell?, x4]
  have cc4 := chains_any 1 5 1 (.slice none 0 0) _ [3, 1] 3 w4 ⟨_, _, _, rfl⟩ S4.out.1
  unfold confA at cc4
  simp at cc4
  clear x4
  go_wp2_with fail
  refine Calls.mono cc4 ?_
  rintro v w5 ⟨rfl, hb⟩
  have S5 := Lib.hid (NX.out _ _ hb S4.out)
  clear hb d40 d41 d42 d43 d44 cc4 S4
  have x5 := S5.out.2.1
  have d50 : w5.cell? ⟨w.heap.size + 1, 0, none⟩ = some (.int .i64 1) := by simp [World.cell?, x5]
  have d51 : w5.cell? ⟨w.heap.size + 1, 1, none⟩ = some (.int .i64 5) := by simp [World.cell?, x5]
  have d52 : w5.cell? ⟨w.heap.size + 1, 2, none⟩ = some (.int .i64 1) := by simp [World.cell?, x5]
  have d53 : w5.cell? ⟨w.heap.size + 1, 3, none⟩ = some (.slice none 0 0) := by simp [World.cell?, x5]
  have d54 : w5.cell? ⟨w.heap.size + 1, 4, none⟩ = some (.slice (some ⟨w.heap.size, 0, none⟩) 2 2) := by simp [World.cell?, x5]
  have cc5 := mirrors_any 1 5 1 (.slice none 0 0) (.slice (some ⟨w.heap.size, 0, none⟩) 2 2) [] 3 w5 (SR.nil_ _ _) ⟨_, _, _, rfl⟩
  unfold confA at cc5
  simp at cc5
  clear x5
  go_wp2_with fail
  refine Calls.mono cc5 ?_
  rintro v w6 ⟨rfl, hb⟩
  have S6 := Lib.hid (NX.out _ _ hb S5.out)
  clear hb d50 d51 d52 d53 d54 cc5 S5
  go_wp2_with fail
  go_ret
  exact ⟨rfl, S6.out.2.2⟩
end Go.Proofs.Ytbjjfidjggagnaa
