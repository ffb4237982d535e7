/-
  items: the methods of a set, whatever comes; of none; the waking call of layer 9; ItemsNone.
-/
import Derived.Test.YtnjklhmnkjejfaaSetB
import Derived.Test.YtnjklhmnkjejfaaIputE
namespace Go.Proofs.Ytnjklhmnkjejfaa
open Go.RowKit
set_option linter.unusedVariables false
set_option linter.unusedSimpArgs false

theorem alloc_far {w : World} {g : Nat} {ob o : Obj} (h : w.heap[g]? = some ob) : (w.alloc o).heap[g]? = some ob := (Below.heap_alloc w o g (lt_heap h)).trans h
def inB (b : Int) : Bool := decide (0 ≤ b) && decide (b < 64)
def putL (m : Bool) (l : List HI) (x : HI) : List HI := if (m && inB x.b) = true then layL l x else l
def putsL (m : Bool) (l : List HI) (x : HI) : Bool := m && inB x.b && laysL l x
def gv (o : Option HI) : Int := (o.map (·.v)).getD 0
def gd (o : Option HI) : ByteArray := (o.map (·.d)).getD ⟨#[]⟩
theorem sput (w : World) (N p : Nat) (v : Value) (l : List HI) (h : SetAt w N p v l) (x : HI) (m : Bool) (hm : MayT m x.v x.d) (hv : (Lit.int .u64 x.v).wf = true) (hd : x.d.size ≤ 40) :
    Calls Try.prog 35 #[.pointer (some ⟨p, 0, none⟩), .int .i64 x.b, .agg (itemA x.v x.d)] w fun e w' => e = .returned (.bool (putsL m l x)) ∧ ∃ v', SetAt w' N p v' (putL m l x) ∧ OKept w w' N p v v' := by
  have hNw : N ≤ w.heap.size := Nat.le_trans h.1 (Nat.le_of_lt (lt_heap h.2.1))
  have stay : ∀ e w', e = Ending.returned (.bool false) ∧ Below w.heap.size w w' → (m && inB x.b) = false → e = .returned (.bool (putsL m l x)) ∧ ∃ v', SetAt w' N p v' (putL m l x) ∧ OKept w w' N p v v' := by
    rintro e w' ⟨rfl, hb⟩ hf
    refine ⟨by rw [putsL, hf]; rfl, v, ?_, OKept.of_below hb hNw⟩
    rw [putL, if_neg (by rw [hf]; decide)]
    exact h.below hb
  by_cases hin : 0 ≤ x.b ∧ x.b < 64
  · obtain ⟨h0, h1⟩ := hin
    have hib : inB x.b = true := by simp [inB, h0, h1]
    cases m
    · exact (sput_bad w p x.b x.v x.d h0 h1 hm).mono fun e w' q => stay e w' q (by simp)
    · have hg : Good x := ⟨h0, h1, hv, hd⟩
      have hpl : putL true l x = layL l x := by simp [putL, hib]
      have hps : putsL true l x = laysL l x := by simp [putsL, hib]
      rw [hpl, hps]
      cases split_of l x.b h.2.2.2.pw with
      | no A B e hA hB =>
        subst e
        rw [layL_no hA hB, laysL_no hA hB]
        exact sput_no w N p v A B x h hA hB hg hm
      | yes A y B e hy hA hB =>
        subst e
        rw [layL_yes hA hy, laysL_yes hA hy]
        by_cases hn : y.v < x.v
        · rw [if_pos hn, decide_eq_true hn]
          exact sput_new w N p v A B x y h hg hy hm hn
        · rw [if_neg hn, decide_eq_false hn]
          exact (sput_old w N p v A B x y h hg hy hm hn).mono fun e w' q => ⟨q.1, v, h.below q.2, OKept.of_below q.2 hNw⟩
  · have hib : inB x.b = false := by
      unfold inB
      rw [Bool.and_eq_false_iff]
      simp only [decide_eq_false_iff_not]
      omega
    exact (sput_out w p x.b x.v x.d (by omega)).mono fun e w' q => stay e w' q (by rw [hib]; simp)
theorem sget (w : World) (N p : Nat) (v : Value) (l : List HI) (h : SetAt w N p v l) (b : Int) :
    Calls Try.prog 31 #[.pointer (some ⟨p, 0, none⟩), .int .i64 b] w fun e w' => e = .returned (.tuple #[.agg (itemA (gv (getL l b)) (gd (getL l b))), .bool (getL l b).isSome]) ∧ Below w.heap.size w w' := by
  cases split_of l b h.2.2.2.pw with
  | no A B e hA hB =>
    have hg : getL l b = none := by rw [e]; exact getL_no hA hB
    rw [hg]
    exact sget_no w N p v l h b hg
  | yes A y B e hy hA hB =>
    subst e
    rw [getL_yes hA hy]
    subst hy
    exact sget_yes w N p v A B y h
theorem sdrop (w : World) (N p : Nat) (v : Value) (l : List HI) (h : SetAt w N p v l) (b ver : Int) :
    Calls Try.prog 36 #[.pointer (some ⟨p, 0, none⟩), .int .i64 b, .int .u64 ver] w fun e w' => e = .returned (.bool (dropsL l b ver)) ∧ ∃ v', SetAt w' N p v' (dropL l b ver) ∧ OKept w w' N p v v' := by
  have hNw : N ≤ w.heap.size := Nat.le_trans h.1 (Nat.le_of_lt (lt_heap h.2.1))
  cases split_of l b h.2.2.2.pw with
  | no A B e hA hB =>
    have hg : getL l b = none := by rw [e]; exact getL_no hA hB
    have h1 : dropL l b ver = l := by rw [e]; exact dropL_no hA hB
    have h2 : dropsL l b ver = false := by rw [e]; exact dropsL_no hA hB
    rw [h1, h2]
    exact (sdrop_no w N p v l h b ver hg).mono fun e w' q => ⟨q.1, v, h.below q.2, OKept.of_below q.2 hNw⟩
  | yes A y B e hy hA hB =>
    subst e
    rw [dropL_yes hA hB hy, dropsL_yes hA hy]
    subst hy
    by_cases hn : y.v ≤ ver
    · rw [if_pos hn, decide_eq_true hn]
      exact sdrop_yes w N p v A B y h ver hn
    · rw [if_neg hn, decide_eq_false hn]
      exact (sdrop_new w N p v A B y h ver (by omega)).mono fun e w' q => ⟨q.1, v, h.below q.2, OKept.of_below q.2 hNw⟩

theorem snil_all (w : World) : Calls Try.prog 37 #[.pointer none] w fun e w' => e = .returned (.slice none 0 0) ∧ w = w' := by
  go_enter Try.func37, Try.ntmps37
  go_wp2_with fail
  go_ret
  exact ⟨rfl, rfl⟩
theorem snil_find (b : Int) (w : World) : Calls Try.prog 49 #[.pointer none, .int .i64 b] w fun e w' => e = .returned (.tuple #[.int .i64 0, .bool false]) ∧ w = w' := by
  go_enter Try.func49, Try.ntmps49
  go_wp2_with fail
  go_returns
  exact ⟨rfl, rfl⟩
theorem snil_drop (b ver : Int) (w : World) : Calls Try.prog 36 #[.pointer none, .int .i64 b, .int .u64 ver] w fun e w' => e = .returned (.bool false) ∧ w = w' := by
  go_enter Try.func36, Try.ntmps36
  go_wp2_with fail
  refine Calls.mono (snil_find b _) ?_
  rintro e w1 ⟨rfl, rfl⟩
  go_wp2_with fail
  go_ret
  exact ⟨rfl, rfl⟩
theorem snil_put (b x : Int) (d : ByteArray) (w : World) : Calls Try.prog 35 #[.pointer none, .int .i64 b, .agg (itemA x d)] w fun e w' => e = .returned (.bool false) ∧ Below w.heap.size w w' := by
  unfold itemA
  go_enter Try.func35, Try.ntmps35
  go_wp2_with fail
  go_ret
  exact ⟨rfl, by go_grown⟩
theorem snil_get (b : Int) (w : World) : Calls Try.prog 31 #[.pointer none, .int .i64 b] w fun e w' => e = .returned (.tuple #[.agg (itemA 0 ⟨#[]⟩), .bool false]) ∧ Below w.heap.size w w' := by
  have hb0 := (Below.refl w.heap.size w).alloc (Nat.le_refl _) (.cells #[.int .u64 0, .string ⟨#[]⟩] 24)
  have y := heap_alloc_self w (.cells #[.int .u64 0, .string ⟨#[]⟩] 24)
  go_enter Try.func31, Try.ntmps31
  go_wp2_with fail
  refine Calls.mono (snil_find b _) ?_
  rintro e w1 ⟨rfl, h1⟩
  rw [h1] at hb0 y
  have HB := Lib.hid hb0
  have f0 : w1.frozen? ⟨w.heap.size, 0, none⟩ = false := by simp [World.frozen?, y]
  have f1 : w1.frozen? ⟨w.heap.size, 1, none⟩ = false := by simp [World.frozen?, y]
  have d0 : w1.cell? ⟨w.heap.size, 0, none⟩ = some (.int .u64 0) := by simp [World.cell?, y]
  have d1 : w1.cell? ⟨w.heap.size, 1, none⟩ = some (.string ⟨#[]⟩) := by simp [World.cell?, y]
  clear hb0 h1
  go_wp2_with fail
  obtain ⟨s0, s1⟩ := item_over y 0 ⟨#[]⟩
  have FO := Lib.hid ((HB.out.setCell (p := ⟨w.heap.size, 0, none⟩) (Nat.le_refl _) (.int .u64 0)).setCell (p := ⟨w.heap.size, 1, none⟩) (Nat.le_refl _) (.string ⟨#[]⟩))
  generalize (w1.setCell ⟨w.heap.size, 0, none⟩ (.int .u64 0)).setCell ⟨w.heap.size, 1, none⟩ (.string ⟨#[]⟩) = w5 at *
  refine bodyPost_ret (v := .tuple #[.agg #[.int .u64 0, .string ⟨#[]⟩], .bool false]) (by simp [results, Try.results31, go_sem, s0, s1]) rfl ?_
  exact ⟨rfl, FO.out⟩
theorem mayT_none (v : Int) : MayT true v ⟨#[]⟩ := ⟨imay_none v, rmay_none v⟩
end Go.Proofs.Ytnjklhmnkjejfaa
