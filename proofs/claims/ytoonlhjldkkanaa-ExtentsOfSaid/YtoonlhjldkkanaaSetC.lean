/-
  items: the methods of a set, whatever comes; of none; the waking call of layer 9; ItemsNone.
-/
import Derived.Test.YtoonlhjldkkanaaSetB
import Derived.Test.YtoonlhjldkkanaaIputE
namespace Go.Proofs.Ytoonlhjldkkanaa
open Go.RowKit
set_option linter.unusedVariables false
set_option linter.unusedSimpArgs false

theorem alloc_far {w : World} {g : Nat} {ob o : Obj} (h : w.heap[g]? = some ob) : (w.alloc o).heap[g]? = some ob := (Below.heap_alloc w o g (lt_heap h)).trans h
def inB (b : Int) : Bool := decide (0 ≤ b) && decide (b < 64)
def putL (m : Bool) (l : List HI) (x : HI) : List HI := if (m && inB x.b) = true then layL l x else l
def putsL (m : Bool) (l : List HI) (x : HI) : Bool := m && inB x.b && laysL l x
def gv (o : Option HI) : Int := (o.map (·.v)).getD 0
def gd (o : Option HI) : ByteArray := (o.map (·.d)).getD ⟨#[]⟩
theorem sput (w : World) (N p : Nat) (v : Value) (l : List HI) (h : SetAt w N p v l) (x : HI) (m : Bool) (hm : MayT m x.v x.d) (hv : (Lit.int .u64 x.v).wf = true) (hd : x.d.size ≤ 40) :
    Calls Try.prog 28 #[.pointer (some ⟨p, 0, none⟩), .int .i64 x.b, .agg (itemA x.v x.d)] w fun e w' => e = .returned (.bool (putsL m l x)) ∧ ∃ v', SetAt w' N p v' (putL m l x) ∧ OKept w w' N p v v' := by
  have hNw : N ≤ w.heap.size := Nat.le_trans h.1 (Nat.le_of_lt (lt_heap h.2.1))
  have stay : ∀ e w', e = Ending.returned (.bool false) ∧ Below w.heap.size w w' → (m && inB x.b) = false → e = .returned (.bool (putsL m l x)) ∧ ∃ v', SetAt w' N p v' (putL m l x) ∧ OKept w w' N p v v' := by
    rintro e w' ⟨rfl, hb⟩ hf
    refine ⟨by rw [putsL, hf]; rfl, v, ?_, OKept.of_below hb hNw⟩
    rw [putL, if_neg (by rw [hf]; decide)]
    exact h.below hb
  by_cases hin : 0 ≤ x.b ∧ x.b < 64
  · obtain ⟨h0, h1⟩ := hin
    have hib : inB x.b = true := by simp [inB, h0, h1]
    cases m
    · exact (sput_bad w p x.b x.v x.d h0 h1 hm).mono fun e w' q => stay e w' q (by simp)
    · have hg : Good x := ⟨h0, h1, hv, hd⟩
      have hpl : putL true l x = layL l x := by simp [putL, hib]
      have hps : putsL true l x = laysL l x := by simp [putsL, hib]
      rw [hpl, hps]
      cases split_of l x.b h.2.2.2.pw with
      | no A B e hA hB =>
        subst e
        rw [layL_no hA hB, laysL_no hA hB]
        exact sput_no w N p v A B x h hA hB hg hm
      | yes A y B e hy hA hB =>
        subst e
        rw [layL_yes hA hy, laysL_yes hA hy]
        by_cases hn : y.v < x.v
        · rw [if_pos hn, decide_eq_true hn]
          exact sput_new w N p v A B x y h hg hy hm hn
        · rw [if_neg hn, decide_eq_false hn]
          exact (sput_old w N p v A B x y h hg hy hm hn).mono fun e w' q => ⟨q.1, v, h.below q.2, OKept.of_below q.2 hNw⟩
  · have hib : inB x.b = false := by
      unfold inB
      rw [Bool.and_eq_false_iff]
      simp only [decide_eq_false_iff_not]
      omega
    exact (sput_out w p x.b x.v x.d (by omega)).mono fun e w' q => stay e w' q (by rw [hib]; simp)
theorem sget (w : World) (N p : Nat) (v : Value) (l : List HI) (h : SetAt w N p v l) (b : Int) :
    Calls Try.prog 29 #[.pointer (some ⟨p, 0, none⟩), .int .i64 b] w fun e w' => e = .returned (.tuple #[.agg (itemA (gv (getL l b)) (gd (getL l b))), .bool (getL l b).isSome]) ∧ Below w.heap.size w w' := by
  cases split_of l b h.2.2.2.pw with
  | no A B e hA hB =>
    have hg : getL l b = none := by rw [e]; exact getL_no hA hB
    rw [hg]
    exact sget_no w N p v l h b hg
  | yes A y B e hy hA hB =>
    subst e
    rw [getL_yes hA hy]
    subst hy
    exact sget_yes w N p v A B y h
theorem sdrop (w : World) (N p : Nat) (v : Value) (l : List HI) (h : SetAt w N p v l) (b ver : Int) :
    Calls Try.prog 26 #[.pointer (some ⟨p, 0, none⟩), .int .i64 b, .int .u64 ver] w fun e w' => e = .returned (.bool (dropsL l b ver)) ∧ ∃ v', SetAt w' N p v' (dropL l b ver) ∧ OKept w w' N p v v' := by
  have hNw : N ≤ w.heap.size := Nat.le_trans h.1 (Nat.le_of_lt (lt_heap h.2.1))
  cases split_of l b h.2.2.2.pw with
  | no A B e hA hB =>
    have hg : getL l b = none := by rw [e]; exact getL_no hA hB
    have h1 : dropL l b ver = l := by rw [e]; exact dropL_no hA hB
    have h2 : dropsL l b ver = false := by rw [e]; exact dropsL_no hA hB
    rw [h1, h2]
    exact (sdrop_no w N p v l h b ver hg).mono fun e w' q => ⟨q.1, v, h.below q.2, OKept.of_below q.2 hNw⟩
  | yes A y B e hy hA hB =>
    subst e
    rw [dropL_yes hA hB hy, dropsL_yes hA hy]
    subst hy
    by_cases hn : y.v ≤ ver
    · rw [if_pos hn, decide_eq_true hn]
      exact sdrop_yes w N p v A B y h ver hn
    · rw [if_neg hn, decide_eq_false hn]
      exact (sdrop_new w N p v A B y h ver (by omega)).mono fun e w' q => ⟨q.1, v, h.below q.2, OKept.of_below q.2 hNw⟩

theorem snil_len (w : World) : Calls Try.prog 31 #[.pointer none] w fun e w' => e = .returned (.int .i64 0) ∧ w = w' := by
  go_enter Try.func31, Try.ntmps31
  go_wp2_with fail
  go_ret
  exact ⟨rfl, rfl⟩
theorem snil_all (w : World) : Calls Try.prog 33 #[.pointer none] w fun e w' => e = .returned (.slice none 0 0) ∧ w = w' := by
  go_enter Try.func33, Try.ntmps33
  go_wp2_with fail
  go_ret
  exact ⟨rfl, rfl⟩
theorem snil_find (b : Int) (w : World) : Calls Try.prog 77 #[.pointer none, .int .i64 b] w fun e w' => e = .returned (.tuple #[.int .i64 0, .bool false]) ∧ w = w' := by
  go_enter Try.func77, Try.ntmps77
  go_wp2_with fail
  go_returns
  exact ⟨rfl, rfl⟩
theorem snil_drop (b ver : Int) (w : World) : Calls Try.prog 26 #[.pointer none, .int .i64 b, .int .u64 ver] w fun e w' => e = .returned (.bool false) ∧ w = w' := by
  go_enter Try.func26, Try.ntmps26
  go_wp2_with fail
  refine Calls.mono (snil_find b _) ?_
  rintro e w1 ⟨rfl, rfl⟩
  go_wp2_with fail
  go_ret
  exact ⟨rfl, rfl⟩
theorem snil_put (b x : Int) (d : ByteArray) (w : World) : Calls Try.prog 28 #[.pointer none, .int .i64 b, .agg (itemA x d)] w fun e w' => e = .returned (.bool false) ∧ Below w.heap.size w w' := by
  unfold itemA
  go_enter Try.func28, Try.ntmps28
  go_wp2_with fail
  go_ret
  exact ⟨rfl, by go_grown⟩
theorem snil_get (b : Int) (w : World) : Calls Try.prog 29 #[.pointer none, .int .i64 b] w fun e w' => e = .returned (.tuple #[.agg (itemA 0 ⟨#[]⟩), .bool false]) ∧ Below w.heap.size w w' := by
  have hb0 := (Below.refl w.heap.size w).alloc (Nat.le_refl _) (.cells #[.int .u64 0, .string ⟨#[]⟩] 24)
  have y := heap_alloc_self w (.cells #[.int .u64 0, .string ⟨#[]⟩] 24)
  go_enter Try.func29, Try.ntmps29
  go_wp2_with fail
  refine Calls.mono (snil_find b _) ?_
  rintro e w1 ⟨rfl, h1⟩
  rw [h1] at hb0 y
  have HB := Lib.hid hb0
  have f0 : w1.frozen? ⟨w.heap.size, 0, none⟩ = false := by simp [World.frozen?, y]
  have f1 : w1.frozen? ⟨w.heap.size, 1, none⟩ = false := by simp [World.frozen?, y]
  have d0 : w1.cell? ⟨w.heap.size, 0, none⟩ = some (.int .u64 0) := by simp [World.cell?, y]
  have d1 : w1.cell? ⟨w.heap.size, 1, none⟩ = some (.string ⟨#[]⟩) := by simp [World.cell?, y]
  clear hb0 h1
  go_wp2_with fail
  obtain ⟨s0, s1⟩ := item_over y 0 ⟨#[]⟩
  have FO := Lib.hid ((HB.out.setCell (p := ⟨w.heap.size, 0, none⟩) (Nat.le_refl _) (.int .u64 0)).setCell (p := ⟨w.heap.size, 1, none⟩) (Nat.le_refl _) (.string ⟨#[]⟩))
  generalize (w1.setCell ⟨w.heap.size, 0, none⟩ (.int .u64 0)).setCell ⟨w.heap.size, 1, none⟩ (.string ⟨#[]⟩) = w5 at *
  refine bodyPost_ret (v := .tuple #[.agg #[.int .u64 0, .string ⟨#[]⟩], .bool false]) (by simp [results, Try.results29, go_sem, s0, s1]) rfl ?_
  exact ⟨rfl, FO.out⟩
theorem mayT_none (v : Int) : MayT true v ⟨#[]⟩ := ⟨imay_none v, rmay_none v⟩
set_option maxHeartbeats 1600000 in
set_option maxRecDepth 100000 in
theorem awake09 (w : World) : Calls Try.prog 34 #[] w fun e w' => e = .returned (.bool true) ∧ Below w.heap.size w w' := by
  have hb0 := (Below.refl w.heap.size w).alloc (Nat.le_refl _) (.cells #[.slice none 0 0] 104)
  have c0 := fun w => snew w
  have S0 := set_new w
  have c1 := sput _ _ _ _ _ S0 ⟨3, 2, ⟨#[]⟩⟩ true (mayT_none 2) (by decide) (by decide)
  unfold itemA at c1
  have e1 : putsL true [] ⟨3, 2, ⟨#[]⟩⟩ = true := by decide
  have e2 : putL true [] ⟨3, 2, ⟨#[]⟩⟩ = [⟨3, 2, ⟨#[]⟩⟩] := rfl
  have e3 : putsL true [⟨3, 2, ⟨#[]⟩⟩] ⟨3, 1, ⟨#[]⟩⟩ = false := by decide
  have e4 : putL true [⟨3, 2, ⟨#[]⟩⟩] ⟨3, 1, ⟨#[]⟩⟩ = [⟨3, 2, ⟨#[]⟩⟩] := rfl
  have e5 : getL [⟨3, 2, ⟨#[]⟩⟩] 3 = some ⟨3, 2, ⟨#[]⟩⟩ := rfl
  rw [e1, e2] at c1
  go_enter Try.func34, Try.ntmps34
  go_wp2_with fail
  refine Calls.mono (c0 _) ?_
  rintro e w1 ⟨rfl, rfl⟩
  go_wp2_with fail
  refine Calls.mono c1 ?_
  rintro e w2 ⟨rfl, v1, S1, K1⟩
  have c2 := sput _ _ _ _ _ S1 ⟨3, 1, ⟨#[]⟩⟩ true (mayT_none 1) (by decide) (by decide)
  unfold itemA at c2
  rw [e3, e4] at c2
  have HK := Lib.hid (hb0.trans K1.below)
  clear K1 c1 S1 c0 hb0 S0
  go_wp2_with fail
  refine Calls.mono c2 ?_
  rintro e w3 ⟨rfl, v2, S2, K2⟩
  have c3 := sget _ _ _ _ _ S2 3
  rw [e5, show gv (some (⟨3, 2, ⟨#[]⟩⟩ : HI)) = 2 from rfl, show gd (some (⟨3, 2, ⟨#[]⟩⟩ : HI)) = ⟨#[]⟩ from rfl, show (some (⟨3, 2, ⟨#[]⟩⟩ : HI)).isSome = true from rfl] at c3
  unfold itemA at c3
  have HK2 := Lib.hid (HK.out.trans K2.below)
  have HS := Lib.hid S2
  clear K2 c2 S2
  go_wp2_with fail
  refine Calls.mono c3 ?_
  rintro e w4 ⟨rfl, h4⟩
  have hx := heap_alloc_self w4 (.cells #[.int .u64 2, .string ⟨#[]⟩] 24)
  have hb5 := (Below.refl w4.heap.size w4).alloc (Nat.le_refl _) (.cells #[.int .u64 2, .string ⟨#[]⟩] 24)
  have S4 := (HS.out.below h4).below hb5
  have FB := Lib.hid (HK2.out.trans ((h4.trans (hb5.mono h4.size)).mono HK2.out.size))
  have c5 := slen _ _ _ _ _ S4
  clear hb5 h4 c3 HS
  go_upto_region 4 with fail
  generalize w4.alloc (.cells #[.int .u64 2, .string ⟨#[]⟩] 24) = w5 at *
  have d0 : w5.cell? ⟨w4.heap.size, 0, none⟩ = some (.int .u64 2) := by simp [World.cell?, hx]
  go_wp2_with fail
  refine Calls.mono c5 ?_
  rintro e w6 ⟨rfl, rfl⟩
  go_wp2_with fail
  go_ret
  exact ⟨rfl, FB.out⟩
set_option maxHeartbeats 1600000 in
set_option maxRecDepth 100000 in
theorem itemsnone_law (b : Int) (c : Array Value) (w : World) (_hb : (Lit.int .i64 b).wf = true) (hc : Fits w (.two (.int .u64) (.two .str .unit)) c.toList) :
    Calls Try.prog 7 #[.int .i64 b, .agg c] w fun e w' => e = .returned (.bool true) ∧ Below w.heap.size w w' := by
  obtain ⟨v, s, rfl, -, -⟩ := fits_item hc
  have ca := fun w => awake09 w
  have cp := fun w => snil_put b v s w
  have cg := fun w => snil_get b w
  have hx := heap_alloc_self w (.cells #[.int .u64 v, .string s] 24)
  have hb0 := (Below.refl w.heap.size w).alloc (Nat.le_refl _) (.cells #[.int .u64 v, .string s] 24)
  clear hc
  unfold itemA at *
  go_enter Try.func7, Try.ntmps7
  go_wp2_with fail
  refine Calls.mono (cg _) ?_
  rintro e w1 ⟨rfl, h1⟩
  have y1 := below_at h1 (lt_heap hx) hx
  have hb1 := hb0.trans (h1.mono hb0.size)
  have hb2 := hb1.alloc hb1.size (.cells #[.int .u64 0, .string ⟨#[]⟩] 24)
  have y2 := alloc_far (o := .cells #[.int .u64 0, .string ⟨#[]⟩] 24) y1
  clear h1 y1 hb1 hx hb0
  go_upto_region 3 with fail
  generalize w1.alloc (.cells #[.int .u64 0, .string ⟨#[]⟩] 24) = w2 at *
  have HB := Lib.hid hb2
  have HY := Lib.hid y2
  clear hb2 y2
  go_wp2_with fail
  refine Calls.mono (ca _) ?_
  rintro e w3 ⟨rfl, h3⟩
  have y3 := below_at h3 (lt_heap HY.out) HY.out
  have d0 : w3.cell? ⟨w.heap.size, 0, none⟩ = some (.int .u64 v) := by simp [World.cell?, y3]
  have d1 : w3.cell? ⟨w.heap.size, 1, none⟩ = some (.string s) := by simp [World.cell?, y3]
  have HB3 := Lib.hid (HB.out.trans (h3.mono HB.out.size))
  clear h3
  go_wp2_with fail
  refine Calls.mono (cp _) ?_
  rintro e w4 ⟨rfl, h4⟩
  have y4 := below_at h4 (lt_heap y3) y3
  clear d0 d1
  have d0 : w4.cell? ⟨w.heap.size, 0, none⟩ = some (.int .u64 v) := by simp [World.cell?, y4]
  have HB4 := Lib.hid (HB3.out.trans (h4.mono HB3.out.size))
  clear h4 y3
  go_wp2_with fail
  refine Calls.mono (snil_drop b v _) ?_
  rintro e w5 ⟨rfl, rfl⟩
  go_wp2_with fail
  refine Calls.mono (snil_len _) ?_
  rintro e w5 ⟨rfl, rfl⟩
  go_wp2_with fail
  refine Calls.mono (snil_all _) ?_
  rintro e w5 ⟨rfl, rfl⟩
  go_wp2_with fail
  go_ret
  exact ⟨rfl, HB4.out⟩
end Go.Proofs.Ytoonlhjldkkanaa
