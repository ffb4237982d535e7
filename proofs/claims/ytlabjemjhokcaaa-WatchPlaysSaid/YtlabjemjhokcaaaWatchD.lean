/-
  WatchPlays' walk.
-/
import Derived.Test.YtlabjemjhokcaaaWatchC
import Derived.Test.YtlabjemjhokcaaaFits
namespace Go.Proofs.Ytlabjemjhokcaaa
open Go.RowKit
set_option linter.unusedVariables false

/-- the watch and the plain numbers hold the same -/
def BothRel (g q : Nat) (k : Int) (i : Nat) (w wr : World) : Prop :=
  ∃ r0 r1 r2 r3 r4 : Int, (0 ≤ r0 ∧ r0 ≤ i) ∧ (0 ≤ r1 ∧ r1 ≤ i) ∧ (0 ≤ r2 ∧ r2 ≤ i) ∧ (0 ≤ r3 ∧ r3 ≤ i) ∧ (0 ≤ r4 ∧ r4 ≤ i) ∧ Wt wr g k r0 r1 r2 r3 r4 ∧
    wr.heap[q]? = some (.cells #[.int .i64 r0, .int .i64 r1, .int .i64 r2, .int .i64 r3, .int .i64 r4] 88) ∧ Below w.heap.size w wr
theorem leftK_more (f : Nat → Bool) (x j : Nat) : ∃ t, leftK f (x + j) = leftK f x ++ t := by
  induction j with
  | zero => exact ⟨[], by simp⟩
  | succ j ih =>
    obtain ⟨t, ht⟩ := ih
    refine ⟨t ++ (if f (x + j) then [((x + j : Nat) : Int)] else []), ?_⟩
    rw [← Nat.add_assoc, leftK, ht, List.append_assoc]
theorem leftK_at (f : Nat → Bool) (x : Nat) (hx : x < 5) (hf : f x = true) : (leftK f x).length < (leftK f 5).length ∧ (leftK f 5).getD (leftK f x).length 0 = x := by
  obtain ⟨t, ht⟩ := leftK_more f (x + 1) (5 - (x + 1))
  rw [show x + 1 + (5 - (x + 1)) = 5 by omega] at ht
  have e : leftK f (x + 1) = leftK f x ++ [(x : Int)] := by simp [leftK, hf]
  rw [e] at ht
  rw [ht]
  constructor
  · simp
  · simp [List.getD]
def LenIs (f : Nat → Bool) (j y : Nat) : Prop := (leftK f j).length = y
theorem len_true {f : Nat → Bool} {j y : Nat} (h : LenIs f j y) (hf : f j = true) : LenIs f (j + 1) (y + 1) := by
  unfold LenIs at *
  simp [leftK, hf, h]
theorem len_false {f : Nat → Bool} {j y : Nat} (h : LenIs f j y) (hf : f j = false) : LenIs f (j + 1) y := by
  unfold LenIs at *
  simp [leftK, hf, h]
/-- the same memory, whatever was drawn -/
def SameHeap (w wr : World) : Prop := wr.heap = w.heap ∧ wr.os = w.os ∧ wr.tape = w.tape ∧ wr.output = w.output
theorem SameHeap.drew {w wr : World} (h : SameHeap w wr) (n : Nat) : SameHeap w (wr.drewN n) := h
theorem cell_same {w wr : World} (h : SameHeap w wr) (b o : Nat) : wr.cell? ⟨b, o, none⟩ = w.cell? ⟨b, o, none⟩ := by simp only [World.cell?, h.1]
theorem Wt.same {w wr : World} {g : Nat} {k q0 q1 q2 q3 q4 : Int} (h : Wt w g k q0 q1 q2 q3 q4) (hs : SameHeap w wr) : Wt wr g k q0 q1 q2 q3 q4 := by unfold Wt; rw [hs.1]; exact h
theorem below_same {B : Nat} {x w wr : World} (h : Below B x w) (hs : SameHeap w wr) : Below B x wr :=
  ⟨hs.2.1.trans h.os, hs.2.2.1.trans h.tape, hs.2.2.2.trans h.output, by rw [hs.1]; exact h.size, fun k hk => by rw [hs.1]; exact h.block k hk⟩
def IsK (s : Value) : Prop := ∃ z : Int, s = .int .i64 z ∧ 1 ≤ z ∧ z ≤ 1000
theorem tk_small {r : Int} {i : Nat} (h : 0 ≤ r ∧ r ≤ i) (hi : i < 80) : tk r = r + 1 := by unfold tk; rw [if_neg (by omega)]
set_option maxHeartbeats 12800000 in
set_option maxRecDepth 20000 in
theorem wplays_law (n : Int) (a : Option Addr) (len cap : Nat) (w : World) (hn : (Lit.int .i64 n).wf = true) (hf : Fits w (.slice (.two .bool (.two (.int .i64) .unit))) [.slice a len cap]) :
    Calls Try.prog 13 #[.int .i64 n, .slice a len cap] w fun v w' => v = .returned (.bool true) ∧ Below w.heap.size w w' := by
  obtain ⟨hlc, hcm, helem⟩ := hf.slice
  unfold maxLen at hcm
  have HEL := Lib.hid helem
  clear hf helem hn
  go_enter Try.func13, Try.ntmps13
  go_upto_region 1 with fail
  go_cut [5] (fun s wx => IsK s ∧ wx = w)
  case first =>
    have h3 : n < 1 ∨ (1 ≤ n ∧ n ≤ 1000) ∨ (1 ≤ n ∧ 1000 < n) := by omega
    rcases h3 with h | ⟨h, h'⟩ | ⟨h, h'⟩
    all_goals
      go_wp2_with fail
      go_meet
      exact ⟨⟨_, rfl, by omega, by omega⟩, rfl⟩
  case rest =>
    obtain ⟨⟨z, rfl, hz1, hz2⟩, rfl⟩ := hcut
    have hm7 := mask7 n
    have hx : 0 ≤ n % 8 ∧ n % 8 ≤ 7 := by omega
    generalize n % 8 = X at *
    go_upto_if 19 with fail
    go_cut [5] (fun s wx => IsK s ∧ wx = wc)
    case first =>
      by_cases h3 : 0 < bits .and .i64 n 3
      · have hX : X = 0 ∨ X = 1 ∨ X = 2 ∨ X = 3 ∨ X = 4 ∨ X = 5 ∨ X = 6 ∨ X = 7 := by omega
        clear hx
        rcases hX with rfl | rfl | rfl | rfl | rfl | rfl | rfl | rfl
        all_goals
          go_wp2_with fail
          go_meet
          exact ⟨⟨_, rfl, by omega, by omega⟩, rfl⟩
      · go_wp2_with fail
        go_meet
        exact ⟨⟨_, rfl, hz1, hz2⟩, rfl⟩
    case rest =>
      clear hm7 hx hz1 hz2
      obtain ⟨⟨k, rfl, hk1, hk2⟩, rfl⟩ := hcut
      obtain ⟨W0, hW0⟩ : ∃ W0, W0 = wc := ⟨_, rfl⟩
      subst hW0
      have hck : clampK k = k := by unfold clampK; rw [if_neg (by omega), if_neg (by omega)]
      have HCK := Lib.hid hck
      clear hck
      go_wp2_with fail
      refine Calls.mono (new_any k _) ?_
      rw [HCK.out]
      rintro v w1 ⟨rfl, hw1⟩
      have H1 : Wt w1 W0.heap.size k 0 0 0 0 0 := by rw [hw1]; exact heap_alloc_self _ _
      have E1 : Below W0.heap.size W0 w1 := by rw [hw1]; go_grown
      have z1 := H1.lt
      have BR := Lib.hid (show BothRel W0.heap.size w1.heap.size k 0 W0 (w1.alloc (.cells #[.int .i64 0, .int .i64 0, .int .i64 0, .int .i64 0, .int .i64 0] 88)) from
        ⟨0, 0, 0, 0, 0, by simp, by simp, by simp, by simp, by simp, H1.below ((Below.refl w1.heap.size _).alloc (Nat.le_refl _) _) z1, heap_alloc_self _ _, E1.alloc (by omega) _⟩)
      clear hw1 H1 E1
      go_wp2_with fail
      go_loopw [8] (fun i wr => ∃ j : Nat, j ≤ len ∧ j ≤ 80 ∧ i = .int .i64 j ∧ BothRel W0.heap.size w1.heap.size k j W0 wr) (fun i _ => 80 - (intOf i).toNat)
      case atStart => exact ⟨0, by omega, by omega, rfl, BR.out⟩
      case round =>
        obtain ⟨j, hj1, hj2, rfl, hb⟩ := hrel
        clear BR
        by_cases hin : j < len ∧ j < 80
        · obtain ⟨hi1, hi2⟩ := hin
          obtain ⟨b, off, rfl, hbl, hel⟩ := HEL.out.resolve_left (by omega)
          obtain ⟨ys, hyl, hyc, tx, ty, rfl, ⟨tb, rfl⟩, tz, tw, rfl, ⟨tn, rfl, -⟩, rfl⟩ := hel j hi1
          obtain ⟨r0, r1, r2, r3, r4, b0, b1, b2, b3, b4, hW, hQ, hE⟩ := hb
          have c0 : wr.cell? ⟨b, off + j * 2, none⟩ = some (.bool tb) := by
            have := hyc 0 _ rfl
            rw [hE.cell hbl]
            simpa [Sh.size] using this
          have c1 : wr.cell? ⟨b, off + j * 2 + 1, none⟩ = some (.int .i64 tn) := by
            have := hyc 1 _ rfl
            rw [hE.cell hbl]
            simpa [Sh.size] using this
          have HW := Lib.hid hW
          have HQ := Lib.hid hQ
          have HE := Lib.hid hE
          have hsz := hE.size
          have lw := hW.lt
          have lq := lt_heap hQ
          clear hyc hyl hel hW hQ hE
          go_upto_if 41 with fail
          obtain ⟨l0, u0⟩ := b0
          obtain ⟨l1, u1⟩ := b1
          obtain ⟨l2, u2⟩ := b2
          obtain ⟨l3, u3⟩ := b3
          obtain ⟨l4, u4⟩ := b4
          go_cut [] (fun wx => BothRel W0.heap.size w1.heap.size k (j + 1) W0 wx)
          case first =>
            cases tb
            · have htn : tn = 0 ∨ tn = 1 ∨ tn = 2 ∨ tn = 3 ∨ tn = 4 ∨ tn < 0 ∨ (0 ≤ tn ∧ 5 ≤ tn) := by omega
              rcases htn with rfl | rfl | rfl | rfl | rfl | ht | ⟨ht, ht'⟩
              · go_wp2_with fail
                refine Calls.mono (heard0 W0.heap.size k r0 r1 r2 r3 r4 wr HW.out) ?_
                rintro v w3 ⟨rfl, h3, o3⟩
                have c3 := (World.cell?_of_block (a := ⟨b, off + j * 2 + 1, none⟩) (o3.block b (by omega) (by omega))).trans c1
                have q3 := (o3.block w1.heap.size lq (by omega)).trans HQ.out
                have x3 : w3.cell? ⟨w1.heap.size, 0, none⟩ = some (.int .i64 r0) := by simp [World.cell?, q3]
                have f3 : w3.frozen? ⟨w1.heap.size, 0, none⟩ = false := by simp [World.frozen?, q3]
                have Q3 := Lib.hid q3
                have K3 := Lib.hid h3
                have E3 := Lib.hid (HE.out.trans (o3.below (Nat.le_refl _) hsz))
                clear q3 h3 o3 c0 c1 HW HQ HE
                go_wp2_with fail
                go_meet
                exact ⟨0, r1, r2, r3, r4, by omega, by omega, by omega, by omega, by omega, (Below.heap_setCell _ _ _ _ (by simp; omega)).trans K3.out, heap_set_self Q3.out 0 _, E3.out.setCell (by simp; omega) _⟩
              · go_wp2_with fail
                refine Calls.mono (heard1 W0.heap.size k r0 r1 r2 r3 r4 wr HW.out) ?_
                rintro v w3 ⟨rfl, h3, o3⟩
                have c3 := (World.cell?_of_block (a := ⟨b, off + j * 2 + 1, none⟩) (o3.block b (by omega) (by omega))).trans c1
                have q3 := (o3.block w1.heap.size lq (by omega)).trans HQ.out
                have x3 : w3.cell? ⟨w1.heap.size, 1, none⟩ = some (.int .i64 r1) := by simp [World.cell?, q3]
                have f3 : w3.frozen? ⟨w1.heap.size, 1, none⟩ = false := by simp [World.frozen?, q3]
                have Q3 := Lib.hid q3
                have K3 := Lib.hid h3
                have E3 := Lib.hid (HE.out.trans (o3.below (Nat.le_refl _) hsz))
                clear q3 h3 o3 c0 c1 HW HQ HE
                go_wp2_with fail
                go_meet
                exact ⟨r0, 0, r2, r3, r4, by omega, by omega, by omega, by omega, by omega, (Below.heap_setCell _ _ _ _ (by simp; omega)).trans K3.out, heap_set_self Q3.out 1 _, E3.out.setCell (by simp; omega) _⟩
              · go_wp2_with fail
                refine Calls.mono (heard2 W0.heap.size k r0 r1 r2 r3 r4 wr HW.out) ?_
                rintro v w3 ⟨rfl, h3, o3⟩
                have c3 := (World.cell?_of_block (a := ⟨b, off + j * 2 + 1, none⟩) (o3.block b (by omega) (by omega))).trans c1
                have q3 := (o3.block w1.heap.size lq (by omega)).trans HQ.out
                have x3 : w3.cell? ⟨w1.heap.size, 2, none⟩ = some (.int .i64 r2) := by simp [World.cell?, q3]
                have f3 : w3.frozen? ⟨w1.heap.size, 2, none⟩ = false := by simp [World.frozen?, q3]
                have Q3 := Lib.hid q3
                have K3 := Lib.hid h3
                have E3 := Lib.hid (HE.out.trans (o3.below (Nat.le_refl _) hsz))
                clear q3 h3 o3 c0 c1 HW HQ HE
                go_wp2_with fail
                go_meet
                exact ⟨r0, r1, 0, r3, r4, by omega, by omega, by omega, by omega, by omega, (Below.heap_setCell _ _ _ _ (by simp; omega)).trans K3.out, heap_set_self Q3.out 2 _, E3.out.setCell (by simp; omega) _⟩
              · go_wp2_with fail
                refine Calls.mono (heard3 W0.heap.size k r0 r1 r2 r3 r4 wr HW.out) ?_
                rintro v w3 ⟨rfl, h3, o3⟩
                have c3 := (World.cell?_of_block (a := ⟨b, off + j * 2 + 1, none⟩) (o3.block b (by omega) (by omega))).trans c1
                have q3 := (o3.block w1.heap.size lq (by omega)).trans HQ.out
                have x3 : w3.cell? ⟨w1.heap.size, 3, none⟩ = some (.int .i64 r3) := by simp [World.cell?, q3]
                have f3 : w3.frozen? ⟨w1.heap.size, 3, none⟩ = false := by simp [World.frozen?, q3]
                have Q3 := Lib.hid q3
                have K3 := Lib.hid h3
                have E3 := Lib.hid (HE.out.trans (o3.below (Nat.le_refl _) hsz))
                clear q3 h3 o3 c0 c1 HW HQ HE
                go_wp2_with fail
                go_meet
                exact ⟨r0, r1, r2, 0, r4, by omega, by omega, by omega, by omega, by omega, (Below.heap_setCell _ _ _ _ (by simp; omega)).trans K3.out, heap_set_self Q3.out 3 _, E3.out.setCell (by simp; omega) _⟩
              · go_wp2_with fail
                refine Calls.mono (heard4 W0.heap.size k r0 r1 r2 r3 r4 wr HW.out) ?_
                rintro v w3 ⟨rfl, h3, o3⟩
                have c3 := (World.cell?_of_block (a := ⟨b, off + j * 2 + 1, none⟩) (o3.block b (by omega) (by omega))).trans c1
                have q3 := (o3.block w1.heap.size lq (by omega)).trans HQ.out
                have x3 : w3.cell? ⟨w1.heap.size, 4, none⟩ = some (.int .i64 r4) := by simp [World.cell?, q3]
                have f3 : w3.frozen? ⟨w1.heap.size, 4, none⟩ = false := by simp [World.frozen?, q3]
                have Q3 := Lib.hid q3
                have K3 := Lib.hid h3
                have E3 := Lib.hid (HE.out.trans (o3.below (Nat.le_refl _) hsz))
                clear q3 h3 o3 c0 c1 HW HQ HE
                go_wp2_with fail
                go_meet
                exact ⟨r0, r1, r2, r3, 0, by omega, by omega, by omega, by omega, by omega, (Below.heap_setCell _ _ _ _ (by simp; omega)).trans K3.out, heap_set_self Q3.out 4 _, E3.out.setCell (by simp; omega) _⟩
              · go_wp2_with fail
                refine Calls.mono (heard_no W0.heap.size tn (by omega) wr) ?_
                rintro v w3 ⟨rfl, rfl⟩
                go_wp2_with fail
                go_meet
                exact ⟨r0, r1, r2, r3, r4, by omega, by omega, by omega, by omega, by omega, HW.out, HQ.out, HE.out⟩
              · go_wp2_with fail
                refine Calls.mono (heard_no W0.heap.size tn (by omega) wr) ?_
                rintro v w3 ⟨rfl, rfl⟩
                go_wp2_with fail
                go_meet
                exact ⟨r0, r1, r2, r3, r4, by omega, by omega, by omega, by omega, by omega, HW.out, HQ.out, HE.out⟩
            · have cA := tick_any W0.heap.size k r0 r1 r2 r3 r4 wr HW.out (by omega) (by omega) (by omega) (by omega) (by omega)
              rw [tk_small (i := j) (by omega) hi2, tk_small (i := j) (by omega) hi2, tk_small (i := j) (by omega) hi2, tk_small (i := j) (by omega) hi2, tk_small (i := j) (by omega) hi2] at cA
              go_wp2_with fail
              refine Calls.mono cA ?_
              rintro v w3 ⟨rfl, h3, o3⟩
              have q3 := (o3.block w1.heap.size lq (by omega)).trans HQ.out
              have x0 : w3.cell? ⟨w1.heap.size, 0, none⟩ = some (.int .i64 r0) := by simp [World.cell?, q3]
              have x1 : w3.cell? ⟨w1.heap.size, 1, none⟩ = some (.int .i64 r1) := by simp [World.cell?, q3]
              have x2 : w3.cell? ⟨w1.heap.size, 2, none⟩ = some (.int .i64 r2) := by simp [World.cell?, q3]
              have x3 : w3.cell? ⟨w1.heap.size, 3, none⟩ = some (.int .i64 r3) := by simp [World.cell?, q3]
              have x4 : w3.cell? ⟨w1.heap.size, 4, none⟩ = some (.int .i64 r4) := by simp [World.cell?, q3]
              have f3 : ∀ j, w3.frozen? ⟨w1.heap.size, j, none⟩ = false := fun j => by simp [World.frozen?, q3]
              have Q3 := Lib.hid q3
              have K3 := Lib.hid h3
              have E3 := Lib.hid (HE.out.trans (o3.below (Nat.le_refl _) hsz))
              clear q3 h3 o3 c0 c1 HW HQ HE cA
              go_wp2_with fail
              refine wp_loop_rounds 6 ?_
              rw [rounds_succ]
              go_wp2_with fail
              rw [rounds_succ]
              go_wp2_with fail
              rw [rounds_succ]
              go_wp2_with fail
              rw [rounds_succ]
              go_wp2_with fail
              rw [rounds_succ]
              go_wp2_with fail
              rw [rounds_succ]
              go_wp2_with fail
              go_meet
              exact ⟨r0 + 1, r1 + 1, r2 + 1, r3 + 1, r4 + 1, by omega, by omega, by omega, by omega, by omega,
                (Below.heap_setCell _ _ _ _ (by simp; omega)).trans ((Below.heap_setCell _ _ _ _ (by simp; omega)).trans ((Below.heap_setCell _ _ _ _ (by simp; omega)).trans ((Below.heap_setCell _ _ _ _ (by simp; omega)).trans ((Below.heap_setCell _ _ _ _ (by simp; omega)).trans K3.out)))),
                heap_set_self (heap_set_self (heap_set_self (heap_set_self (heap_set_self Q3.out 0 _) 1 _) 2 _) 3 _) 4 _,
                ((((E3.out.setCell (by simp; omega) _).setCell (by simp; omega) _).setCell (by simp; omega) _).setCell (by simp; omega) _).setCell (by simp; omega) _⟩
          case rest =>
            clear l0 l1 l2 l3 l4 u0 u1 u2 u3 u4 c0 c1 HW HQ HE lw lq hsz r0 r1 r2 r3 r4 HEL
            obtain ⟨r0, r1, r2, r3, r4, b0, b1, b2, b3, b4, hW, hQ, hE⟩ := hcut
            have hcu := up_any W0.heap.size k r0 r1 r2 r3 r4
            obtain ⟨d0, hd0⟩ : ∃ d, d = decide (r0 ≤ k) := ⟨_, rfl⟩
            obtain ⟨d1, hd1⟩ : ∃ d, d = decide (r1 ≤ k) := ⟨_, rfl⟩
            obtain ⟨d2, hd2⟩ : ∃ d, d = decide (r2 ≤ k) := ⟨_, rfl⟩
            obtain ⟨d3, hd3⟩ : ∃ d, d = decide (r3 ≤ k) := ⟨_, rfl⟩
            obtain ⟨d4, hd4⟩ : ∃ d, d = decide (r4 ≤ k) := ⟨_, rfl⟩
            simp only [← hd0, ← hd1, ← hd2, ← hd3, ← hd4] at hcu
            have HD := Lib.hid (And.intro hd0 (And.intro hd1 (And.intro hd2 (And.intro hd3 hd4))))
            clear hd0 hd1 hd2 hd3 hd4
            have HW := Lib.hid hW
            have HQ := Lib.hid hQ
            have HE := Lib.hid hE
            have lw := hW.lt
            have lq := lt_heap hQ
            have hsz := hE.size
            clear hW hQ hE
            obtain ⟨f, hf⟩ : ∃ f, f = pB (!d0) (!d1) (!d2) (!d3) (!d4) := ⟨_, rfl⟩
            have f0 : f 0 = !d0 := by rw [hf]; rfl
            have f1 : f 1 = !d1 := by rw [hf]; rfl
            have f2 : f 2 = !d2 := by rw [hf]; rfl
            have f3 : f 3 = !d3 := by rw [hf]; rfl
            have f4 : f 4 = !d4 := by rw [hf]; rfl
            have F := Lib.hid (And.intro f0 (And.intro f1 (And.intro f2 (And.intro f3 f4))))
            have cq : ∀ wx, Wt wx W0.heap.size k r0 r1 r2 r3 r4 → Calls Try.prog 58 #[.pointer (some ⟨W0.heap.size, 0, none⟩)] wx (LeftPost (leftK f 5) wx) := fun wx hx => by
              rw [hf]; exact quiet_of _ d0 d1 d2 d3 d4 wx (hcu wx hx)
            have hle := leftK_le f 5
            clear f0 f1 f2 f3 f4 hf
            go_wp2_with fail
            refine Calls.mono (hcu wc HW.out) ?_
            rintro v w4 ⟨rfl, hb4⟩
            have W4 := HW.out.below hb4 lw
            have Q4 := Lib.hid (below_at hb4 lq HQ.out)
            have E4 := Lib.hid (HE.out.trans (hb4.mono hsz))
            have s4 := hb4.size
            have cq4 := cq w4 W4
            have K4 := Lib.hid W4
            clear hb4 HW HQ HE hcu cq W4
            go_wp2_with fail
            refine Calls.mono cq4 ?_
            rintro v w5 ⟨v, rfl, hs, hb5⟩
            obtain ⟨ad, cap5, rfl, hc5, hm5⟩ := hs.form
            unfold maxLen at hm5
            obtain ⟨n5, hn5⟩ : ∃ n5, (leftK f 5).length = n5 := ⟨_, rfl⟩
            simp only [hn5] at hs hle hc5
            rw [hn5]
            have s5 := hb5.size
            have W5 := K4.out.below hb5 (by omega)
            have Q5 := below_at hb5 (by omega) Q4.out
            have E5 := E4.out.trans (hb5.mono (by omega))
            go_upto_region 19 with fail
            have U6 := heap_alloc_self w5 (.cells #[.bool d0, .bool d1, .bool d2, .bool d3, .bool d4] 69)
            have b6 : Below w5.heap.size w5 (w5.alloc (.cells #[.bool d0, .bool d1, .bool d2, .bool d3, .bool d4] 69)) := (Below.refl _ _).alloc (Nat.le_refl _) _
            have W6 := Lib.hid (W5.below b6 (by omega))
            have Q6 := (b6.block w1.heap.size (by omega)).trans Q5
            have E6 := Lib.hid (E5.trans (b6.mono (by omega)))
            have S6 := Lib.hid (hs.below b6)
            clear b6 W5 Q5 E5 hs hb5 K4 Q4 E4 cq4
            generalize w5.alloc (.cells #[.bool d0, .bool d1, .bool d2, .bool d3, .bool d4] 69) = w6 at *
            generalize w5.heap.size = up at *
            have HU := Lib.hid U6
            have HQ := Lib.hid Q6
            have H5 := Lib.hid hn5
            clear U6 Q6 hn5
            go_wp2_with fail
            go_loopw [12, 13] (fun y x wr => ∃ m n : Nat, m ≤ 5 ∧ n ≤ m ∧ x = .int .i64 m ∧ y = .int .i64 n ∧ LenIs f m n ∧ SameHeap w6 wr) (fun _ x _ => 5 - (intOf x).toNat)
            case atStart => exact ⟨0, 0, by omega, by omega, rfl, rfl, rfl, rfl, rfl, rfl, rfl⟩
            case round =>
              obtain ⟨m, n', hm5, hnm, rfl, rfl, hlen, hsh⟩ := hrel
              have HSH := Lib.hid hsh
              have hh := hsh.1
              have HL := Lib.hid hlen
              have U := HU.out
              have Q := HQ.out
              rw [← hh] at U Q
              have hmc : m = 0 ∨ m = 1 ∨ m = 2 ∨ m = 3 ∨ m = 4 ∨ m = 5 := by omega
              clear hlen hsh hh
              rcases hmc with rfl | rfl | rfl | rfl | rfl | rfl
              · have xu : wr.cell? ⟨up, 0, none⟩ = some (.bool d0) := by simp [World.cell?, U]
                have xq : wr.cell? ⟨w1.heap.size, 0, none⟩ = some (.int .i64 r0) := by simp [World.cell?, Q]
                have hd := HD.out.1
                clear U Q
                cases d0
                · have hdec : decide (r0 ≤ k) = false := hd.symm
                  have hnot : ¬ (r0 ≤ k) := by simpa using hdec
                  obtain ⟨ht, hg⟩ := leftK_at f 0 (by omega) F.out.1
                  have hl := HL.out
                  unfold LenIs at hl
                  rw [hl, H5.out] at ht
                  rw [hl] at hg
                  obtain ⟨b3, off3, rfl, hb3, hcell3⟩ := S6.out.int (by omega)
                  have hc3 := (cell_same HSH.out b3 (off3 + n')).trans (hcell3 n' ht)
                  rw [hg] at hc3
                  clear hcell3 hg hl hd
                  go_wp2_with fail
                  go_quiet (fail)
                  go_wp2_with fail
                  go_roundw
                  case rel => exact ⟨1, n' + 1, by omega, by omega, rfl, by go_num, len_true HL.out F.out.1, HSH.out.drew _⟩
                  case measure => simp [intOf]
                · have hdec : decide (r0 ≤ k) = true := hd.symm
                  have hyes : r0 ≤ k := by simpa using hdec
                  clear hd
                  go_wp2_with fail
                  go_quiet (fail)
                  go_wp2_with fail
                  go_roundw
                  case rel => exact ⟨1, n', by omega, by omega, rfl, rfl, len_false HL.out F.out.1, HSH.out.drew _⟩
                  case measure => simp [intOf]
              · have xu : wr.cell? ⟨up, 1, none⟩ = some (.bool d1) := by simp [World.cell?, U]
                have xq : wr.cell? ⟨w1.heap.size, 1, none⟩ = some (.int .i64 r1) := by simp [World.cell?, Q]
                have hd := HD.out.2.1
                clear U Q
                cases d1
                · have hdec : decide (r1 ≤ k) = false := hd.symm
                  have hnot : ¬ (r1 ≤ k) := by simpa using hdec
                  obtain ⟨ht, hg⟩ := leftK_at f 1 (by omega) F.out.2.1
                  have hl := HL.out
                  unfold LenIs at hl
                  rw [hl, H5.out] at ht
                  rw [hl] at hg
                  obtain ⟨b3, off3, rfl, hb3, hcell3⟩ := S6.out.int (by omega)
                  have hc3 := (cell_same HSH.out b3 (off3 + n')).trans (hcell3 n' ht)
                  rw [hg] at hc3
                  clear hcell3 hg hl hd
                  go_wp2_with fail
                  go_quiet (fail)
                  go_wp2_with fail
                  go_roundw
                  case rel => exact ⟨2, n' + 1, by omega, by omega, rfl, by go_num, len_true HL.out F.out.2.1, HSH.out.drew _⟩
                  case measure => simp [intOf]
                · have hdec : decide (r1 ≤ k) = true := hd.symm
                  have hyes : r1 ≤ k := by simpa using hdec
                  clear hd
                  go_wp2_with fail
                  go_quiet (fail)
                  go_wp2_with fail
                  go_roundw
                  case rel => exact ⟨2, n', by omega, by omega, rfl, rfl, len_false HL.out F.out.2.1, HSH.out.drew _⟩
                  case measure => simp [intOf]
              · have xu : wr.cell? ⟨up, 2, none⟩ = some (.bool d2) := by simp [World.cell?, U]
                have xq : wr.cell? ⟨w1.heap.size, 2, none⟩ = some (.int .i64 r2) := by simp [World.cell?, Q]
                have hd := HD.out.2.2.1
                clear U Q
                cases d2
                · have hdec : decide (r2 ≤ k) = false := hd.symm
                  have hnot : ¬ (r2 ≤ k) := by simpa using hdec
                  obtain ⟨ht, hg⟩ := leftK_at f 2 (by omega) F.out.2.2.1
                  have hl := HL.out
                  unfold LenIs at hl
                  rw [hl, H5.out] at ht
                  rw [hl] at hg
                  obtain ⟨b3, off3, rfl, hb3, hcell3⟩ := S6.out.int (by omega)
                  have hc3 := (cell_same HSH.out b3 (off3 + n')).trans (hcell3 n' ht)
                  rw [hg] at hc3
                  clear hcell3 hg hl hd
                  go_wp2_with fail
                  go_quiet (fail)
                  go_wp2_with fail
                  go_roundw
                  case rel => exact ⟨3, n' + 1, by omega, by omega, rfl, by go_num, len_true HL.out F.out.2.2.1, HSH.out.drew _⟩
                  case measure => simp [intOf]
                · have hdec : decide (r2 ≤ k) = true := hd.symm
                  have hyes : r2 ≤ k := by simpa using hdec
                  clear hd
                  go_wp2_with fail
                  go_quiet (fail)
                  go_wp2_with fail
                  go_roundw
                  case rel => exact ⟨3, n', by omega, by omega, rfl, rfl, len_false HL.out F.out.2.2.1, HSH.out.drew _⟩
                  case measure => simp [intOf]
              · have xu : wr.cell? ⟨up, 3, none⟩ = some (.bool d3) := by simp [World.cell?, U]
                have xq : wr.cell? ⟨w1.heap.size, 3, none⟩ = some (.int .i64 r3) := by simp [World.cell?, Q]
                have hd := HD.out.2.2.2.1
                clear U Q
                cases d3
                · have hdec : decide (r3 ≤ k) = false := hd.symm
                  have hnot : ¬ (r3 ≤ k) := by simpa using hdec
                  obtain ⟨ht, hg⟩ := leftK_at f 3 (by omega) F.out.2.2.2.1
                  have hl := HL.out
                  unfold LenIs at hl
                  rw [hl, H5.out] at ht
                  rw [hl] at hg
                  obtain ⟨b3, off3, rfl, hb3, hcell3⟩ := S6.out.int (by omega)
                  have hc3 := (cell_same HSH.out b3 (off3 + n')).trans (hcell3 n' ht)
                  rw [hg] at hc3
                  clear hcell3 hg hl hd
                  go_wp2_with fail
                  go_quiet (fail)
                  go_wp2_with fail
                  go_roundw
                  case rel => exact ⟨4, n' + 1, by omega, by omega, rfl, by go_num, len_true HL.out F.out.2.2.2.1, HSH.out.drew _⟩
                  case measure => simp [intOf]
                · have hdec : decide (r3 ≤ k) = true := hd.symm
                  have hyes : r3 ≤ k := by simpa using hdec
                  clear hd
                  go_wp2_with fail
                  go_quiet (fail)
                  go_wp2_with fail
                  go_roundw
                  case rel => exact ⟨4, n', by omega, by omega, rfl, rfl, len_false HL.out F.out.2.2.2.1, HSH.out.drew _⟩
                  case measure => simp [intOf]
              · have xu : wr.cell? ⟨up, 4, none⟩ = some (.bool d4) := by simp [World.cell?, U]
                have xq : wr.cell? ⟨w1.heap.size, 4, none⟩ = some (.int .i64 r4) := by simp [World.cell?, Q]
                have hd := HD.out.2.2.2.2
                clear U Q
                cases d4
                · have hdec : decide (r4 ≤ k) = false := hd.symm
                  have hnot : ¬ (r4 ≤ k) := by simpa using hdec
                  obtain ⟨ht, hg⟩ := leftK_at f 4 (by omega) F.out.2.2.2.2
                  have hl := HL.out
                  unfold LenIs at hl
                  rw [hl, H5.out] at ht
                  rw [hl] at hg
                  obtain ⟨b3, off3, rfl, hb3, hcell3⟩ := S6.out.int (by omega)
                  have hc3 := (cell_same HSH.out b3 (off3 + n')).trans (hcell3 n' ht)
                  rw [hg] at hc3
                  clear hcell3 hg hl hd
                  go_wp2_with fail
                  go_quiet (fail)
                  go_wp2_with fail
                  go_roundw
                  case rel => exact ⟨5, n' + 1, by omega, by omega, rfl, by go_num, len_true HL.out F.out.2.2.2.2, HSH.out.drew _⟩
                  case measure => simp [intOf]
                · have hdec : decide (r4 ≤ k) = true := hd.symm
                  have hyes : r4 ≤ k := by simpa using hdec
                  clear hd
                  go_wp2_with fail
                  go_quiet (fail)
                  go_wp2_with fail
                  go_roundw
                  case rel => exact ⟨5, n', by omega, by omega, rfl, rfl, len_false HL.out F.out.2.2.2.2, HSH.out.drew _⟩
                  case measure => simp [intOf]
              · have hl := HL.out
                unfold LenIs at hl
                rw [H5.out] at hl
                subst hl
                have BR := Lib.hid (show BothRel W0.heap.size w1.heap.size k (j + 1) W0 wr from ⟨r0, r1, r2, r3, r4, b0, b1, b2, b3, b4, W6.out.same HSH.out, Q, below_same E6.out HSH.out⟩)
                clear U Q b0 b1 b2 b3 b4
                go_wp2_with fail
                go_roundw
                case rel => exact ⟨j + 1, by omega, by omega, by go_num, BR.out⟩
                case measure => simp [intOf]; omega
        · obtain ⟨_, _, _, _, _, _, _, _, _, _, -, -, hE⟩ := hb
          have hout : ¬ (j < len) ∨ (j < len ∧ ¬ ((j : Int) < 80)) := by omega
          have hsz := hE.size
          have HE := Lib.hid hE
          clear hin hE
          rcases hout with ho | ⟨ho, ho2⟩
          all_goals
            go_wp2_with fail
            refine Calls.mono (watch_awake _) ?_
            rintro v wa ⟨rfl, hba⟩
            have EA := Lib.hid (HE.out.trans (hba.mono hsz))
            clear hba HE
            go_wp2_with fail
            go_ret
            exact ⟨rfl, EA.out⟩
end Go.Proofs.Ytlabjemjhokcaaa
