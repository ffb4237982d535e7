/-
  The waking call of layer 49; WatchMost's walk.
-/
import Derived.Test.YtlabjemjhokcaaaWatchB
import Derived.OpenShut
namespace Go.Proofs.Ytlabjemjhokcaaa
open Go.RowKit
set_option linter.unusedVariables false

theorem arr5_key : Try.prog.keyTypeAt 4 69 = true := by kernel_rfl
theorem arr5_guard : Try.prog.eqGuardType Try.prog.depth 69 = false := by kernel_rfl
theorem arr5_eq (a b c d e a' b' c' d' e' : Bool) (w : World) :
    (binOp .eql 69 (.agg #[.bool a, .bool b, .bool c, .bool d, .bool e]) (.agg #[.bool a', .bool b', .bool c', .bool d', .bool e'])).run Try.prog w = .ok (.bool (a == a' && b == b' && c == c' && d == d' && e == e')) w := by
  refine (eq_deep (m := 4) (D := 4) (D' := 4) arr5_key (by decide) (lx := [.bool a, .bool b, .bool c, .bool d, .bool e]) (ly := [.bool a', .bool b', .bool c', .bool d', .bool e']) (by kernel_rfl) (by kernel_rfl) (by kernel_rfl) (by kernel_rfl) _ ?_ w).1
  simp [and_assoc]
theorem Wt.only {w w' : World} {b g : Nat} {k q0 q1 q2 q3 q4 : Int} (h : Wt w g k q0 q1 q2 q3 q4) (ho : Only b w w') (hne : g ≠ b) : Wt w' g k q0 q1 q2 q3 q4 := (ho.block g (lt_heap h) hne).trans h
theorem Wt.below {B : Nat} {w w' : World} {g : Nat} {k q0 q1 q2 q3 q4 : Int} (h : Wt w g k q0 q1 q2 q3 q4) (hb : Below B w w') (hg : g < B) : Wt w' g k q0 q1 q2 q3 q4 := (hb.block g hg).trans h
theorem Wt.lt {w : World} {g : Nat} {k q0 q1 q2 q3 q4 : Int} (h : Wt w g k q0 q1 q2 q3 q4) : g < w.heap.size := lt_heap h
/-- how many are quiet -/
def LenIsPost (n : Nat) (w : World) (e : Ending) (w' : World) : Prop := ∃ a cap, e = .returned (.slice a n cap) ∧ Below w.heap.size w w'
theorem quiet_len {p : Value} {y0 y1 y2 y3 y4 : Bool} {w : World} (n : Nat) (hn : (leftK (pB (!y0) (!y1) (!y2) (!y3) (!y4)) 5).length = n)
    (hc : Calls Try.prog 57 #[p] w fun e w' => e = .returned (.agg #[.bool y0, .bool y1, .bool y2, .bool y3, .bool y4]) ∧ Below w.heap.size w w') : Calls Try.prog 58 #[p] w (LenIsPost n w) :=
  (quiet_of p y0 y1 y2 y3 y4 w hc).mono fun e w' h => by
    obtain ⟨v, he, hs, hb⟩ := h
    obtain ⟨a, cap, rfl, _⟩ := hs.form
    exact ⟨a, cap, by rw [he, hn], hb⟩
theorem watch_awake (w : World) : Calls Try.prog 59 #[] w fun x w' => x = .returned (.bool true) ∧ Below w.heap.size w w' := by
  have hg := arr5_guard
  have hq := arr5_eq true true true true true true true true true true
  simp at hq
  go_enter Try.func59, Try.ntmps59
  go_wp2_with fail
  refine Calls.mono (new_any 1 _) ?_
  rintro v w1 ⟨rfl, hw1⟩
  have H1 : Wt w1 w.heap.size 1 0 0 0 0 0 := by rw [hw1]; exact heap_alloc_self _ _
  have E1 : Below w.heap.size w w1 := by rw [hw1]; go_grown
  have z1 := H1.lt
  have K1 := Lib.hid H1
  have B1 := Lib.hid E1
  clear hw1 H1 E1
  have cu := up_any w.heap.size 1 0 0 0 0 0 w1 K1.out
  simp at cu
  go_wp2_with fail
  refine Calls.mono cu ?_
  rintro v w2 ⟨rfl, hb2⟩
  have K2 := Lib.hid (K1.out.below hb2 z1)
  have B2 := Lib.hid (B1.out.trans (hb2.mono (by omega)))
  have z2 := K2.out.lt
  clear hb2 cu K1 B1
  go_upto_region 3 with fail
  obtain ⟨w3, hw3⟩ : ∃ w3, w3 = w2.alloc (.cells #[.bool true, .bool true, .bool true, .bool true, .bool true] 69) := ⟨_, rfl⟩
  rw [← hw3]
  have K3 : Wt w3 w.heap.size 1 0 0 0 0 0 := by rw [hw3]; exact K2.out.below ((Below.refl w2.heap.size _).alloc (Nat.le_refl _) _) z2
  have B3 : Below w.heap.size w w3 := by rw [hw3]; exact B2.out.alloc (by omega) _
  have U3 : w3.heap[w2.heap.size]? = some (.cells #[.bool true, .bool true, .bool true, .bool true, .bool true] 69) := by rw [hw3]; exact heap_alloc_self _ _
  have KU := Lib.hid U3
  have u3 := lt_heap U3
  have KW := Lib.hid K3
  have KB := Lib.hid B3
  have z3 := K3.lt
  clear hw3 K2 B2 K3 B3 U3
  have t1 : tk 0 = 1 := by decide
  have t2 : tk 1 = 2 := by decide
  have cA := tick_any w.heap.size 1 0 0 0 0 0 w3 KW.out (by decide) (by decide) (by decide) (by decide) (by decide)
  rw [t1] at cA
  go_wp2_with fail
  refine Calls.mono cA ?_
  rintro v w4 ⟨rfl, h4, o4⟩
  have cB := tick_any w.heap.size 1 1 1 1 1 1 w4 h4 (by decide) (by decide) (by decide) (by decide) (by decide)
  rw [t2] at cB
  have U4 := (o4.block w2.heap.size u3 (by omega)).trans KU.out
  have KU4 := Lib.hid U4
  have KB4 := Lib.hid (KB.out.trans (o4.below (Nat.le_refl _) (by omega)))
  have z4 := o4.size
  clear U4 o4 KU KB h4 cA KW
  go_wp2_with fail
  refine Calls.mono cB ?_
  rintro v w5 ⟨rfl, h5, o5⟩
  have U5 := (o5.block w2.heap.size (by omega) (by omega)).trans KU4.out
  have a0 : w5.cell? ⟨w2.heap.size, 0, none⟩ = some (.bool true) := by simp [World.cell?, U5]
  have a1 : w5.cell? ⟨w2.heap.size, 1, none⟩ = some (.bool true) := by simp [World.cell?, U5]
  have a2 : w5.cell? ⟨w2.heap.size, 2, none⟩ = some (.bool true) := by simp [World.cell?, U5]
  have a3 : w5.cell? ⟨w2.heap.size, 3, none⟩ = some (.bool true) := by simp [World.cell?, U5]
  have a4 : w5.cell? ⟨w2.heap.size, 4, none⟩ = some (.bool true) := by simp [World.cell?, U5]
  have KB5 := Lib.hid (KB4.out.trans (o5.below (Nat.le_refl _) (by omega)))
  have z5 := o5.size
  have cq := quiet_len 5 (by decide) (up_any w.heap.size 1 2 2 2 2 2 w5 h5)
  clear U5 o5 KU4 KB4 h5 cB t1 t2
  go_wp2_with fail
  refine Calls.mono cq ?_
  rintro v w6 ⟨a, cap, rfl, hb6⟩
  have KB6 := Lib.hid (KB5.out.trans (hb6.mono (by omega)))
  clear hb6 cq
  go_wp2_with fail
  go_ret
  exact ⟨rfl, KB6.out⟩
theorem clampK_ge (n : Int) : (decide ((1000 : Int) ≤ clampK n)) = decide (1000 ≤ n) := by
  unfold clampK
  split
  · simp; omega
  · split <;> (simp; try omega)
/-- two watches behind so many ticks -/
def MostRel (g v : Nat) (a b : Int) (n : Nat) (w wr : World) : Prop :=
  Wt wr g a (min n 1000 : Nat) (min n 1000 : Nat) (min n 1000 : Nat) (min n 1000 : Nat) (min n 1000 : Nat) ∧ (Wt wr v b (min n 1000 : Nat) (min n 1000 : Nat) (min n 1000 : Nat) (min n 1000 : Nat) (min n 1000 : Nat) ∧ g < v) ∧ Below w.heap.size w wr
/-- all that is read at the end -/
def MostEnd (a v o up : Nat) (kw kv : Int) (w wr : World) : Prop :=
  Wt wr a kw 1000 1000 1000 1000 1000 ∧ Wt wr v kv 1000 1000 1000 1000 1000 ∧ Wt wr o 1 2 2 2 2 2 ∧ wr.heap[up]? = some (.cells #[.bool true, .bool true, .bool true, .bool true, .bool true] 69) ∧ Below w.heap.size w wr
theorem MostEnd.next {a v o up : Nat} {kw kv : Int} {w wr wz : World} (h : MostEnd a v o up kw kv w wr) (hb : Below wr.heap.size wr wz) : MostEnd a v o up kw kv w wz :=
  ⟨h.1.below hb h.1.lt, h.2.1.below hb h.2.1.lt, h.2.2.1.below hb h.2.2.1.lt, (hb.block up (lt_heap h.2.2.2.1)).trans h.2.2.2.1, h.2.2.2.2.trans (hb.mono h.2.2.2.2.size)⟩
theorem tk_min (n : Nat) : tk ((min n 1000 : Nat) : Int) = ((min (n + 1) 1000 : Nat) : Int) := by unfold tk; split <;> omega
set_option maxHeartbeats 3200000 in
set_option maxRecDepth 20000 in
theorem most_law (n : Int) (w : World) (hn : (Lit.int .i64 n).wf = true) :
    Calls Try.prog 14 #[.int .i64 n] w fun v w' => v = .returned (.bool true) ∧ Below w.heap.size w w' := by
  have hnb : n ≤ 9223372036854775807 := (bounds_i64 hn).2
  clear hn
  go_enter Try.func14, Try.ntmps14
  go_wp2_with fail
  refine Calls.mono (new_any _ _) ?_
  rintro v w1 ⟨rfl, hw1⟩
  have H1 : Wt w1 w.heap.size (clampK n) 0 0 0 0 0 := by rw [hw1]; exact heap_alloc_self _ _
  have E1 : Below w.heap.size w w1 := by rw [hw1]; go_grown
  have z1 := H1.lt
  have K1 := Lib.hid H1
  have B1 := Lib.hid E1
  clear hw1 H1 E1
  obtain ⟨kv, hkv⟩ : ∃ kv, clampK (wrap64 (-n)) = kv := ⟨_, rfl⟩
  have hk1 : 0 ≤ n → kv = 1 := fun h => by
    rw [← hkv]
    unfold clampK
    rw [if_pos (by unfold wrap64; omega)]
  have HV := Lib.hid hkv
  have HK := Lib.hid hk1
  clear hkv hk1
  go_wp2_with fail
  refine Calls.mono (new_any _ _) ?_
  rw [HV.out]
  rintro v w2 ⟨rfl, hw2⟩
  have H2 : Wt w2 w1.heap.size kv 0 0 0 0 0 := by rw [hw2]; exact heap_alloc_self _ _
  have G2 : Wt w2 w.heap.size (clampK n) 0 0 0 0 0 := by rw [hw2]; exact K1.out.below ((Below.refl w1.heap.size _).alloc (Nat.le_refl _) _) z1
  have E2 : Below w.heap.size w w2 := by rw [hw2]; exact B1.out.alloc (by omega) _
  have M2 := Lib.hid (show MostRel w.heap.size w1.heap.size (clampK n) kv 0 w w2 from ⟨G2, ⟨H2, z1⟩, E2⟩)
  clear hw2 H2 G2 E2 K1 B1 HV
  obtain ⟨kw, hkw⟩ : ∃ kw, kw = clampK n := ⟨_, rfl⟩
  have hge : decide ((1000 : Int) ≤ kw) = decide (1000 ≤ n) := by rw [hkw]; exact clampK_ge n
  have HGE := Lib.hid hge
  rw [← hkw] at M2
  clear hge hkw
  generalize w1.heap.size = g at *
  go_wp2_with fail
  go_loopw [5] (fun i wr => ∃ j : Nat, j ≤ 1005 ∧ i = .int .i64 j ∧ MostRel w.heap.size g kw kv j w wr) (fun i _ => 1005 - (intOf i).toNat)
  case atStart => exact ⟨0, by omega, rfl, M2.out⟩
  case round =>
    obtain ⟨j, hj, rfl, hA, ⟨hB, hgg⟩, hbel⟩ := hrel
    have HA := Lib.hid hA
    have HB := Lib.hid hB
    have HE := Lib.hid hbel
    have zs := hbel.size
    have zg := hB.lt
    by_cases hlt : j < 1005
    · have cA := tick_any w.heap.size kw _ _ _ _ _ wr hA (by omega) (by omega) (by omega) (by omega) (by omega)
      rw [tk_min] at cA
      clear hA hB hbel M2
      go_wp2_with fail
      refine Calls.mono cA ?_
      rintro v w3 ⟨rfl, h3, o3⟩
      have B3 := HB.out.only o3 (by omega)
      have cB := tick_any g kv _ _ _ _ _ w3 B3 (by omega) (by omega) (by omega) (by omega) (by omega)
      rw [tk_min] at cB
      have A3 := Lib.hid h3
      have E3 := Lib.hid (HE.out.trans (o3.below (Nat.le_refl _) zs))
      have z3 := o3.size
      clear h3 o3 B3 cA
      go_wp2_with fail
      refine Calls.mono cB ?_
      rintro v w4 ⟨rfl, h4, o4⟩
      have A4 := A3.out.only o4 (by omega)
      have M4 := Lib.hid (show MostRel w.heap.size g kw kv (j + 1) w w4 from ⟨A4, ⟨h4, hgg⟩, E3.out.trans (o4.below (by omega) (by omega))⟩)
      clear h4 o4 A4 cB
      go_wp2_with fail
      go_roundw
      case rel => exact ⟨j + 1, by omega, by go_num, M4.out⟩
      case measure => simp [intOf]; omega
    · obtain rfl : j = 1005 := by omega
      clear hA hB hbel M2 hlt
      have e1000 : ((min 1005 1000 : Nat) : Int) = 1000 := rfl
      have hA := HA.out
      have hB := HB.out
      rw [e1000] at hA hB
      have KA := Lib.hid hA
      have KV := Lib.hid hB
      clear hA hB HA HB e1000
      have t0 : clampK 0 = 1 := by decide
      have t1 : tk 0 = 1 := by decide
      have t2 : tk 1 = 2 := by decide
      have T := Lib.hid (And.intro t0 (And.intro t1 t2))
      clear t0 t1 t2
      go_wp2_with fail
      refine Calls.mono (new_any 0 _) ?_
      rw [T.out.1]
      rintro v w5 ⟨rfl, hw5⟩
      have H5 : Wt w5 wr.heap.size 1 0 0 0 0 0 := by rw [hw5]; exact heap_alloc_self _ _
      have A5 := Lib.hid (show Wt w5 w.heap.size kw 1000 1000 1000 1000 1000 by rw [hw5]; exact KA.out.below ((Below.refl wr.heap.size _).alloc (Nat.le_refl _) _) (by omega))
      have V5 := Lib.hid (show Wt w5 g kv 1000 1000 1000 1000 1000 by rw [hw5]; exact KV.out.below ((Below.refl wr.heap.size _).alloc (Nat.le_refl _) _) zg)
      have E5 := Lib.hid (show Below w.heap.size w w5 by rw [hw5]; exact HE.out.alloc zs _)
      have z5 := H5.lt
      have zw : w.heap.size < wr.heap.size := by omega
      have cA := tick_any wr.heap.size 1 0 0 0 0 0 w5 H5 (by decide) (by decide) (by decide) (by decide) (by decide)
      rw [T.out.2.1] at cA
      clear hw5 H5 KA KV HE
      generalize wr.heap.size = o at *
      go_wp2_with fail
      refine Calls.mono cA ?_
      rintro v w6 ⟨rfl, h6, o6⟩
      have cu := up_any o 1 1 1 1 1 1 w6 h6
      simp at cu
      have A6 := Lib.hid (A5.out.only o6 (by omega))
      have V6 := Lib.hid (V5.out.only o6 (by omega))
      have E6 := Lib.hid (E5.out.trans (o6.below (by omega) (by omega)))
      have O6 := Lib.hid h6
      have z6 := o6.size
      clear o6 h6 A5 V5 E5 cA
      go_wp2_with fail
      refine Calls.mono cu ?_
      rintro v w7 ⟨rfl, hb7⟩
      have z7 := hb7.size
      go_upto_region 10 with fail
      obtain ⟨w8, hw8⟩ : ∃ w8, w8 = w7.alloc (.cells #[.bool true, .bool true, .bool true, .bool true, .bool true] 69) := ⟨_, rfl⟩
      rw [← hw8]
      have hb8 : Below w6.heap.size w6 w8 := by rw [hw8]; exact hb7.alloc z7 _
      have U8 := Lib.hid (show w8.heap[w7.heap.size]? = some (.cells #[.bool true, .bool true, .bool true, .bool true, .bool true] 69) by rw [hw8]; exact heap_alloc_self _ _)
      have A8 := Lib.hid (A6.out.below hb8 (by omega))
      have V8 := Lib.hid (V6.out.below hb8 (by omega))
      have E8 := Lib.hid (E6.out.trans (hb8.mono (by omega)))
      have O8 := O6.out.below hb8 (by omega)
      have z8 := lt_heap U8.out
      have cA := tick_any o 1 1 1 1 1 1 w8 O8 (by decide) (by decide) (by decide) (by decide) (by decide)
      rw [T.out.2.2] at cA
      clear hw8 hb8 hb7 cu A6 V6 E6 O6 O8
      generalize w7.heap.size = up at *
      go_wp2_with fail
      refine Calls.mono cA ?_
      rintro v w9 ⟨rfl, h9, o9⟩
      have A9 := A8.out.only o9 (by omega)
      have V9 := V8.out.only o9 (by omega)
      have E9 := E8.out.trans (o9.below (by omega) (by omega))
      have U9 := (o9.block up z8 (by omega)).trans U8.out
      have z9 := o9.size
      have S9 := Lib.hid (show MostEnd w.heap.size g o up kw kv w w9 from ⟨A9, V9, h9, U9, E9⟩)
      have zz : w.heap.size < w9.heap.size ∧ g < w9.heap.size ∧ o < w9.heap.size ∧ up < w9.heap.size := by omega
      clear A9 V9 h9 U9 E9
      clear o9 cA A8 V8 E8 U8
      go_wp2_with fail
      refine Calls.mono (heard_nil 1 _) ?_
      rintro v w10 ⟨rfl, rfl⟩
      go_wp2_with fail
      refine Calls.mono (tick_nil _) ?_
      rintro v w10 ⟨rfl, rfl⟩
      have hgd := arr5_guard
      have heq := arr5_eq false false false false false false false false false false
      simp at heq
      have cO : ∀ wx, MostEnd w.heap.size g o up kw kv w wx → Calls Try.prog 58 #[.pointer (some ⟨o, 0, none⟩)] wx (LenIsPost 5 wx) := fun wx hm => quiet_len 5 (by decide) (up_any o 1 2 2 2 2 2 wx hm.2.2.1)
      have cN : ∀ wx, Calls Try.prog 58 #[.pointer none] wx (LenIsPost 5 wx) := fun wx => quiet_len 5 (by decide) (up_nil wx)
      have hcase : 1000 ≤ n ∨ (0 ≤ n ∧ ¬ (1000 ≤ n)) ∨ (n < 0 ∧ ¬ (1000 ≤ n)) := by omega
      rcases hcase with hc | ⟨hc, hc2⟩ | ⟨hc, hc2⟩
      · have hdw : decide ((1000 : Int) ≤ kw) = true := by rw [HGE.out]; simp; try omega
        have cW : ∀ wx, MostEnd w.heap.size g o up kw kv w wx → Calls Try.prog 58 #[.pointer (some ⟨w.heap.size, 0, none⟩)] wx (LenIsPost 0 wx) := fun wx hm => by
          have cu := up_any w.heap.size kw 1000 1000 1000 1000 1000 wx hm.1
          rw [hdw] at cu
          exact quiet_len 0 (by decide) cu
        have hkv1 := HK.out (by omega)
        have cV : ∀ wx, MostEnd w.heap.size g o up kw kv w wx → Calls Try.prog 58 #[.pointer (some ⟨g, 0, none⟩)] wx (LenIsPost 5 wx) := fun wx hm => by
          have cu := up_any g kv 1000 1000 1000 1000 1000 wx hm.2.1
          rw [hkv1] at cu
          exact quiet_len 5 (by decide) cu
        clear hkv1
        clear hdw
        go_wp2_with fail
        refine Calls.mono (watch_awake _) ?_
        rintro v wa ⟨rfl, hba⟩
        have SA := Lib.hid (S9.out.next hba)
        clear hba S9
        go_wp2_with fail
        refine Calls.mono (cW _ SA.out) ?_
        rintro v wb ⟨ab, cb, rfl, hbb⟩
        have SB := Lib.hid (SA.out.next hbb)
        clear hbb SA cW
        go_wp2_with fail
        refine Calls.mono (cV _ SB.out) ?_
        rintro v wc ⟨ac, cc, rfl, hbc⟩
        have SC := Lib.hid (SB.out.next hbc)
        clear hbc SB cV
        have uc : wc.cell? ⟨up, 0, none⟩ = some (.bool true) := by simp [World.cell?, SC.out.2.2.2.1]
        go_wp2_with fail
        refine Calls.mono (cO _ SC.out) ?_
        rintro v wd ⟨ad, cd, rfl, hbd⟩
        have SD := Lib.hid (SC.out.next hbd)
        clear hbd SC uc
        go_wp2_with fail
        refine Calls.mono (up_nil _) ?_
        rintro v we ⟨rfl, hbe⟩
        have SE := Lib.hid (SD.out.next hbe)
        clear hbe SD
        go_wp2_with fail
        refine Calls.mono (cN _) ?_
        rintro v wf ⟨af, cf, rfl, hbf⟩
        have SF := Lib.hid (SE.out.next hbf)
        clear hbf SE
        go_wp2_with fail
        go_ret
        first | exact ⟨rfl, SF.out.2.2.2.2⟩ | exact ⟨ret_bool (by simp; omega), SF.out.2.2.2.2⟩
      · have hdw : decide ((1000 : Int) ≤ kw) = false := by rw [HGE.out]; simp; try omega
        have cW : ∀ wx, MostEnd w.heap.size g o up kw kv w wx → Calls Try.prog 58 #[.pointer (some ⟨w.heap.size, 0, none⟩)] wx (LenIsPost 5 wx) := fun wx hm => by
          have cu := up_any w.heap.size kw 1000 1000 1000 1000 1000 wx hm.1
          rw [hdw] at cu
          exact quiet_len 5 (by decide) cu
        have hkv1 := HK.out (by omega)
        have cV : ∀ wx, MostEnd w.heap.size g o up kw kv w wx → Calls Try.prog 58 #[.pointer (some ⟨g, 0, none⟩)] wx (LenIsPost 5 wx) := fun wx hm => by
          have cu := up_any g kv 1000 1000 1000 1000 1000 wx hm.2.1
          rw [hkv1] at cu
          exact quiet_len 5 (by decide) cu
        clear hkv1
        clear hdw
        go_wp2_with fail
        refine Calls.mono (watch_awake _) ?_
        rintro v wa ⟨rfl, hba⟩
        have SA := Lib.hid (S9.out.next hba)
        clear hba S9
        go_wp2_with fail
        refine Calls.mono (cW _ SA.out) ?_
        rintro v wb ⟨ab, cb, rfl, hbb⟩
        have SB := Lib.hid (SA.out.next hbb)
        clear hbb SA cW
        go_wp2_with fail
        refine Calls.mono (cV _ SB.out) ?_
        rintro v wc ⟨ac, cc, rfl, hbc⟩
        have SC := Lib.hid (SB.out.next hbc)
        clear hbc SB cV
        have uc : wc.cell? ⟨up, 0, none⟩ = some (.bool true) := by simp [World.cell?, SC.out.2.2.2.1]
        go_wp2_with fail
        refine Calls.mono (cO _ SC.out) ?_
        rintro v wd ⟨ad, cd, rfl, hbd⟩
        have SD := Lib.hid (SC.out.next hbd)
        clear hbd SC uc
        go_wp2_with fail
        refine Calls.mono (up_nil _) ?_
        rintro v we ⟨rfl, hbe⟩
        have SE := Lib.hid (SD.out.next hbe)
        clear hbe SD
        go_wp2_with fail
        refine Calls.mono (cN _) ?_
        rintro v wf ⟨af, cf, rfl, hbf⟩
        have SF := Lib.hid (SE.out.next hbf)
        clear hbf SE
        go_wp2_with fail
        go_ret
        first | exact ⟨rfl, SF.out.2.2.2.2⟩ | exact ⟨ret_bool (by simp; omega), SF.out.2.2.2.2⟩
      · have hdw : decide ((1000 : Int) ≤ kw) = false := by rw [HGE.out]; simp; try omega
        have cW : ∀ wx, MostEnd w.heap.size g o up kw kv w wx → Calls Try.prog 58 #[.pointer (some ⟨w.heap.size, 0, none⟩)] wx (LenIsPost 5 wx) := fun wx hm => by
          have cu := up_any w.heap.size kw 1000 1000 1000 1000 1000 wx hm.1
          rw [hdw] at cu
          exact quiet_len 5 (by decide) cu
        clear hdw
        go_wp2_with fail
        refine Calls.mono (watch_awake _) ?_
        rintro v wa ⟨rfl, hba⟩
        have SA := Lib.hid (S9.out.next hba)
        clear hba S9
        go_wp2_with fail
        refine Calls.mono (cW _ SA.out) ?_
        rintro v wb ⟨ab, cb, rfl, hbb⟩
        have SB := Lib.hid (SA.out.next hbb)
        clear hbb SA cW
        have SC := Lib.hid SB.out
        obtain ⟨wc, hwc⟩ : ∃ wc, wc = wb := ⟨_, rfl⟩
        subst hwc
        clear SB
        have uc : wc.cell? ⟨up, 0, none⟩ = some (.bool true) := by simp [World.cell?, SC.out.2.2.2.1]
        go_wp2_with fail
        refine Calls.mono (cO _ SC.out) ?_
        rintro v wd ⟨ad, cd, rfl, hbd⟩
        have SD := Lib.hid (SC.out.next hbd)
        clear hbd SC uc
        go_wp2_with fail
        refine Calls.mono (up_nil _) ?_
        rintro v we ⟨rfl, hbe⟩
        have SE := Lib.hid (SD.out.next hbe)
        clear hbe SD
        go_wp2_with fail
        refine Calls.mono (cN _) ?_
        rintro v wf ⟨af, cf, rfl, hbf⟩
        have SF := Lib.hid (SE.out.next hbf)
        clear hbf SE
        go_wp2_with fail
        go_ret
        first | exact ⟨rfl, SF.out.2.2.2.2⟩ | exact ⟨ret_bool (by simp; omega), SF.out.2.2.2.2⟩
end Go.Proofs.Ytlabjemjhokcaaa
