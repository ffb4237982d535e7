/-
  Several texts, laid together.
-/
import Derived.Test.YtfgmeeponipjeaaMg19
/-
  A mirror with nothing kept: Check, Met; the waking call of layer 24; no mirror.
-/

namespace Go.Proofs.Ytfgmeeponipjeaa
open Go.RowKit
set_option linter.unusedVariables false
set_option linter.unusedSimpArgs false

theorem mmet5 (w : World) (m : Nat) (h : w.cell? ⟨m, 3, none⟩ = some (.int .u64 5)) : Calls Try.prog 57 #[.pointer (some ⟨m, 0, none⟩), .int .i64 3] w fun e w' => e = .returned (.int .u64 5) ∧ w = w' := by
  have ch := fun w => mhas3 w
  go_enter Try.func57, Try.ntmps57
  go_wp2_with fail
  refine Calls.mono (ch _) ?_
  rintro e w1 ⟨rfl, rfl⟩
  go_wp2_with fail
  go_ret
  exact ⟨rfl, rfl⟩
set_option maxHeartbeats 1600000 in
set_option maxRecDepth 100000 in
theorem mcheck5 (w : World) (N p : Nat) (v : Value) (m C a : Nat) (A : Array Value) (mv : Value) (h : Mir w N p v [⟨3, 5, ⟨#[]⟩⟩] m C a 5 A mv) :
    Calls Try.prog 22 #[.pointer (some ⟨m, 0, none⟩), .int .i64 3] w fun e w' => e = .returned (.tuple #[.int .i64 1, .agg #[.int .u64 5, .string ⟨#[]⟩]]) ∧ Below w.heap.size w w' := by
  have hb0 := (Below.refl w.heap.size w).alloc (Nat.le_refl _) (.cells #[.int .u64 0, .string ⟨#[]⟩] 54)
  have hy := heap_alloc_self w (.cells #[.int .u64 0, .string ⟨#[]⟩] 54)
  have h1 := h.go hb0
  have cg := sget _ _ _ _ _ h1.set 3
  rw [show getL [(⟨3, 5, ⟨#[]⟩⟩ : HI)] 3 = some ⟨3, 5, ⟨#[]⟩⟩ from rfl, show gv (some (⟨3, 5, ⟨#[]⟩⟩ : HI)) = 5 from rfl, show gd (some (⟨3, 5, ⟨#[]⟩⟩ : HI)) = ⟨#[]⟩ from rfl, show (some (⟨3, 5, ⟨#[]⟩⟩ : HI)).isSome = true from rfl] at cg
  unfold itemA at cg
  obtain ⟨-, m64, -, -⟩ := h1.cell
  clear h h1
  go_enter Try.func22, Try.ntmps22
  go_upto_region 3 with fail
  generalize w.alloc (.cells #[.int .u64 0, .string ⟨#[]⟩] 54) = w1 at *
  have HB := Lib.hid hb0
  clear hb0
  go_wp2_with fail
  refine Calls.mono cg ?_
  rintro e w2 ⟨rfl, h2⟩
  have y2 := below_at h2 (lt_heap hy) hy
  have hb2 := HB.out.trans (h2.mono HB.out.size)
  have hb3 := hb2.alloc hb2.size (.cells #[.int .u64 5, .string ⟨#[]⟩] 54)
  have y3 := alloc_farS (o := .cells #[.int .u64 5, .string ⟨#[]⟩] 54) y2
  have z3 := heap_alloc_self w2 (.cells #[.int .u64 5, .string ⟨#[]⟩] 54)
  have hlt := lt_heap y2
  clear h2 y2 hb2 hy cg
  go_upto_region 5 with fail
  generalize w2.alloc (.cells #[.int .u64 5, .string ⟨#[]⟩] 54) = w3 at *
  obtain ⟨d0, d1, f0, f1⟩ := item_cells y3
  obtain ⟨e0, e1, -, -⟩ := item_cells z3
  go_region
  obtain ⟨s0, s1⟩ := item_over y3 5 ⟨#[]⟩
  have FO := Lib.hid (below_drew' ((hb3.setCell (p := ⟨w.heap.size, 0, none⟩) (Nat.le_refl _) (.int .u64 5)).setCell (p := ⟨w.heap.size, 1, none⟩) (Nat.le_refl _) (.string ⟨#[]⟩)))
  have s0 : ((w3.setCell ⟨w.heap.size, 0, none⟩ (.int .u64 5)).setCell ⟨w.heap.size, 1, none⟩ (.string ⟨#[]⟩)).drew.cell? ⟨w.heap.size, 0, none⟩ = some (.int .u64 5) := s0
  have s1 : ((w3.setCell ⟨w.heap.size, 0, none⟩ (.int .u64 5)).setCell ⟨w.heap.size, 1, none⟩ (.string ⟨#[]⟩)).drew.cell? ⟨w.heap.size, 1, none⟩ = some (.string ⟨#[]⟩) := s1
  generalize ((w3.setCell ⟨w.heap.size, 0, none⟩ (.int .u64 5)).setCell ⟨w.heap.size, 1, none⟩ (.string ⟨#[]⟩)).drew = w5 at *
  clear d0 d1 f0 f1 e0 e1 y3 z3 hb3
  go_wp2_with fail
  refine bodyPost_ret (v := .tuple #[.int .i64 1, .agg #[.int .u64 5, .string ⟨#[]⟩]]) (by simp [results, Try.results22, go_sem, s0, s1]) rfl ?_
  exact ⟨rfl, FO.out⟩
set_option maxHeartbeats 1600000 in
set_option maxRecDepth 100000 in
theorem awake24 (w : World) : Calls Try.prog 23 #[] w fun e w' => e = .returned (.bool true) ∧ Below w.heap.size w w' := by
  have c0 := fun w => mnew0 w
  have cp := mput0
  go_enter Try.func23, Try.ntmps23
  go_wp2_with fail
  refine Calls.mono (c0 _) ?_
  rintro e w1 ⟨m, C, a, A, mv, rfl, hm, hge, hb1⟩
  have c1 := cp w1 _ _ _ _ _ _ _ _ hm
  have HB := Lib.hid hb1
  have HS := Lib.hid hb1.size
  clear cp c0 hm hb1
  go_wp2_with fail
  refine Calls.mono c1 ?_
  rintro e w2 ⟨rfl, v', hm2, hs2, hb2⟩
  have HB2 := Lib.hid (HB.out.trans (hb2 _ hge (Nat.le_refl _)))
  have c2 := mcheck5 w2 _ _ _ _ _ _ _ _ hm2
  have HM2 := Lib.hid hm2
  clear hm2 hs2 hb2 c1
  go_wp2_with fail
  refine Calls.mono c2 ?_
  rintro e w3 ⟨rfl, hb3⟩
  have hx := heap_alloc_self w3 (.cells #[.int .u64 5, .string ⟨#[]⟩] 54)
  have hm4 := (HM2.out.go hb3).go ((Below.refl w3.heap.size w3).alloc (Nat.le_refl _) (.cells #[.int .u64 5, .string ⟨#[]⟩] 54))
  have hb4 := HB2.out.trans (hb3.mono HB2.out.size)
  have HB4 := Lib.hid (hb4.alloc hb4.size (.cells #[.int .u64 5, .string ⟨#[]⟩] 54))
  clear hb3 hb4 c2
  go_upto_region 4 with fail
  generalize w3.alloc (.cells #[.int .u64 5, .string ⟨#[]⟩] 54) = w4 at *
  obtain ⟨d0, -, -, -⟩ := item_cells hx
  have c5 := mmet5 w4 m hm4.cell.1
  clear hm4 hx
  go_wp2_with fail
  refine Calls.mono c5 ?_
  rintro e w5 ⟨rfl, rfl⟩
  go_wp2_with fail
  go_ret
  exact ⟨rfl, HB4.out⟩

theorem mn_check (b : Int) (w : World) : Calls Try.prog 22 #[.pointer none, .int .i64 b] w fun e w' => e = .returned (.tuple #[.int .i64 0, .agg #[.int .u64 0, .string ⟨#[]⟩]]) ∧ Below w.heap.size w w' := by
  have hb0 := (Below.refl w.heap.size w).alloc (Nat.le_refl _) (.cells #[.int .u64 0, .string ⟨#[]⟩] 54)
  have y := heap_alloc_self w (.cells #[.int .u64 0, .string ⟨#[]⟩] 54)
  go_enter Try.func22, Try.ntmps22
  go_upto_region 2 with fail
  generalize w.alloc (.cells #[.int .u64 0, .string ⟨#[]⟩] 54) = w1 at *
  obtain ⟨d0, d1, f0, f1⟩ := item_cells y
  have HB := Lib.hid hb0
  clear hb0
  go_wp2_with fail
  obtain ⟨s0, s1⟩ := item_over y 0 ⟨#[]⟩
  have FO := Lib.hid ((HB.out.setCell (p := ⟨w.heap.size, 0, none⟩) (Nat.le_refl _) (.int .u64 0)).setCell (p := ⟨w.heap.size, 1, none⟩) (Nat.le_refl _) (.string ⟨#[]⟩))
  generalize (w1.setCell ⟨w.heap.size, 0, none⟩ (.int .u64 0)).setCell ⟨w.heap.size, 1, none⟩ (.string ⟨#[]⟩) = w5 at *
  refine bodyPost_ret (v := .tuple #[.int .i64 0, .agg #[.int .u64 0, .string ⟨#[]⟩]]) (by simp [results, Try.results22, go_sem, s0, s1]) rfl ?_
  exact ⟨rfl, FO.out⟩
theorem mn_put (b x : Int) (d : ByteArray) (w : World) : Calls Try.prog 19 #[.pointer none, .int .i64 b, .agg #[.int .u64 x, .string d]] w fun e w' => e = .returned (.bool false) ∧ Below w.heap.size w w' := by
  have hb0 := (Below.refl w.heap.size w).alloc (Nat.le_refl _) (.cells #[.int .u64 x, .string d] 54)
  go_enter Try.func19, Try.ntmps19
  go_upto_region 1 with fail
  generalize w.alloc (.cells #[.int .u64 x, .string d] 54) = w1 at *
  go_quiet (fail)
  go_wp2_with fail
  go_ret
  exact ⟨rfl, below_drewN' hb0 nq⟩
theorem mn_warm (b x : Int) (d : ByteArray) (w : World) : Calls Try.prog 21 #[.pointer none, .int .i64 b, .agg #[.int .u64 x, .string d]] w fun e w' => e = .returned (.bool false) ∧ Below w.heap.size w w' := by
  have hb0 := (Below.refl w.heap.size w).alloc (Nat.le_refl _) (.cells #[.int .u64 x, .string d] 54)
  go_enter Try.func21, Try.ntmps21
  go_upto_region 1 with fail
  generalize w.alloc (.cells #[.int .u64 x, .string d] 54) = w1 at *
  go_quiet (fail)
  go_wp2_with fail
  go_ret
  exact ⟨rfl, below_drewN' hb0 nq⟩
theorem mn_clean (b x : Int) (w : World) : Calls Try.prog 20 #[.pointer none, .int .i64 b, .int .u64 x] w fun e w' => e = .returned (.bool false) ∧ w = w' := by
  go_enter Try.func20, Try.ntmps20
  go_wp2_with fail
  go_ret
  exact ⟨rfl, rfl⟩
theorem mn_met (b : Int) (w : World) : Calls Try.prog 57 #[.pointer none, .int .i64 b] w fun e w' => e = .returned (.int .u64 0) ∧ w = w' := by
  go_enter Try.func57, Try.ntmps57
  go_wp2_with fail
  go_ret
  exact ⟨rfl, rfl⟩
end Go.Proofs.Ytfgmeeponipjeaa
/-
  A mirror, whatever it holds: what is known of each block is not elder than a bound.
-/


namespace Go.Proofs.Ytfgmeeponipjeaa
open Go.RowKit
set_option linter.unusedVariables false
set_option linter.unusedSimpArgs false

theorem getL_lay_otherM {l : List HI} (h : Srt l) (x : HI) {b : Int} (hb : x.b ≠ b) : getL (layL l x) b = getL l b := by
  have key : ∀ (A B : List HI) (y : HI), y.b ≠ b → getL (A ++ y :: B) b = getL (A ++ B) b := fun A B y hy => by
    unfold getL
    simp [List.find?_append, List.find?_cons, hy]
  cases split_of l x.b h.pw with
  | no A B e hA hB => subst e; rw [layL_no hA hB, key A B x hb]
  | yes A y B e hy hA hB =>
    subst e
    rw [layL_yes hA hy]
    split
    · rw [key A B x hb, key A B y (by omega)]
    · rfl
theorem getL_lay_same {l : List HI} (h : Srt l) (x : HI) : ∃ y, getL (layL l x) x.b = some y ∧ x.v ≤ y.v := by
  cases split_of l x.b h.pw with
  | no A B e hA hB => subst e; rw [layL_no hA hB]; exact ⟨x, getL_yes hA rfl, Int.le_refl _⟩
  | yes A y B e hy hA hB =>
    subst e
    rw [layL_yes hA hy]
    split
    · exact ⟨x, getL_yes hA rfl, Int.le_refl _⟩
    · exact ⟨y, getL_yes hA hy, by omega⟩
theorem mem_lay {l : List HI} {x h : HI} (hh : h ∈ layL l x) : h ∈ l ∨ h = x := by
  induction l with
  | nil => simp [layL] at hh; exact .inr hh
  | cons y t ih =>
    unfold layL at hh
    split at hh
    · rcases List.mem_cons.1 hh with q | q
      · exact .inl (by rw [q]; simp)
      · rcases ih q with r | r
        · exact .inl (by simp [r])
        · exact .inr r
    · split at hh
      · split at hh
        · rcases List.mem_cons.1 hh with q | q
          · exact .inr q
          · exact .inl (by simp [q])
        · exact .inl hh
      · rcases List.mem_cons.1 hh with q | q
        · exact .inr q
        · exact .inl q
theorem getL_filter {l : List HI} {b : Int} {q : HI → Bool} (h : ∀ x : HI, x.b = b → q x = true) : getL (l.filter q) b = getL l b := by
  unfold getL
  induction l with
  | nil => rfl
  | cons y t ih =>
    by_cases e : y.b = b
    · rw [List.filter_cons, if_pos (h y e)]
      simp [List.find?_cons, e]
    · cases hq : q y
      · rw [List.filter_cons, if_neg (by simp [hq]), ih]
        simp [List.find?_cons, e]
      · rw [List.filter_cons, if_pos hq]
        simp [List.find?_cons, e, ih]
theorem getL_drop_other {l : List HI} {b k v : Int} (hb : b ≠ k) : getL (dropL l k v) b = getL l b := getL_filter fun x hx => by
  have : (x.b == k) = false := by simp [hx, hb]
  simp [this]
theorem drop_yes {l : List HI} (h : Srt l) {k v : Int} (hd : dropsL l k v = true) : (∃ y, getL l k = some y ∧ y.v ≤ v) ∧ getL (dropL l k v) k = none := by
  cases split_of l k h.pw with
  | no A B e hA hB => subst e; rw [dropsL_no hA hB] at hd; cases hd
  | yes A y B e hy hA hB =>
    subst e
    rw [dropsL_yes hA hy] at hd
    have hv := of_decide_eq_true hd
    rw [dropL_yes hA hB hy, if_pos hv]
    exact ⟨⟨y, getL_yes hA hy, hv⟩, getL_no hA hB⟩
theorem drop_no {l : List HI} (h : Srt l) {k v : Int} (hd : dropsL l k v = false) : dropL l k v = l := by
  cases split_of l k h.pw with
  | no A B e hA hB => subst e; exact dropL_no hA hB
  | yes A y B e hy hA hB =>
    subst e
    rw [dropsL_yes hA hy] at hd
    rw [dropL_yes hA hB hy, if_neg (of_decide_eq_false hd)]
theorem getL_memM {l : List HI} {b : Int} {h : HI} (e : getL l b = some h) : h ∈ l := List.mem_of_find?_eq_some e
/-- a mirror with room for four -/
structure MS (w : World) (N p m C a mp : Nat) (v : Value) (l : List HI) (W : Int) (V : Nat → Value) (L : Nat → List Int) (n : Nat) (D : DataW Unit) (A : Array Value) : Prop where
  set : SetAt w N p v l
  mir : w.heap[m]? = some (.cells A 100)
  low : N ≤ m
  m64 : A[64]? = some (.pointer (some ⟨p, 0, none⟩))
  m65 : A[65]? = some (.pointer (some ⟨C, 0, none⟩))
  cac : CacheW w N C a mp W V L n D
  nod : ∀ h ∈ l, h.d = ⟨#[]⟩
/-- of each of four blocks: what was met is not elder than F; what is dirty is not elder than what was met; nor what is kept, where nothing is dirty -/
def Inv (l : List HI) (L : Nat → List Int) (D : DataW Unit) (A : Array Value) (F : Nat → Int) : Prop := ∀ b : Nat, b < 4 → ∃ z, A[b]? = some (.int .u64 z) ∧ F b ≤ z ∧ (∀ h, getL l b = some h → z ≤ h.v) ∧ (getL l b = none → 0 < kc L b → ∃ x, dat D b = .lit (.int .u64 x) ∧ z ≤ x)
/-- what a call of a mirror leaves -/
structure MTurn (w w' : World) (N : Nat) : Prop where
  keep : Keep allP w w'
  below : Below N w w'
  size : w.heap.size ≤ w'.heap.size
theorem MTurn.trans {x y z : World} {N : Nat} (h : MTurn x y N) (k : MTurn y z N) : MTurn x z N := ⟨h.keep.trans k.keep, h.below.trans k.below, Nat.le_trans h.size k.size⟩
theorem MTurn.of_below {w w' : World} {N : Nat} (h : Below w.heap.size w w') (hN : N ≤ w.heap.size) : MTurn w w' N := ⟨Keep.below h, h.mono hN, h.size⟩
section
variable {w w' : World} {N p m C a mp : Nat} {v v' : Value} {l l' : List HI} {W W' : Int} {V V' : Nat → Value} {L L' : Nat → List Int} {n n' : Nat} {D D' : DataW Unit} {A : Array Value}
theorem MS.keep {P : Obj → Bool} (h : MS w N p m C a mp v l W V L n D A) (k : Keep P w w') (h0 : ∀ c, P (.cells c 100) = false) (h1 : ∀ c, P (.cells c 142) = false) (h2 : ∀ c, P (.cells c 3) = false) (h3 : ∀ c, P (.cells c 127) = false) (h4 : ∀ es c, P (.map es c) = false) (h5 : ∀ c, P (.cells c 122) = false) (h6 : ∀ c, P (.cells c 131) = false) : MS w' N p m C a mp v l W V L n D A :=
  ⟨set_keepM h.set k h5 h6, k m _ h.mir (h0 _), h.low, h.m64, h.m65, h.cac.keep k h1 h2 h3 h4, h.nod⟩
theorem MS.below (h : MS w N p m C a mp v l W V L n D A) (hb : Below w.heap.size w w') : MS w' N p m C a mp v l W V L n D A :=
  h.keep (P := fun _ => false) (Keep.below hb) (fun _ => rfl) (fun _ => rfl) (fun _ => rfl) (fun _ => rfl) (fun _ _ => rfl) (fun _ => rfl) (fun _ => rfl)
theorem MS.le (h : MS w N p m C a mp v l W V L n D A) : N ≤ w.heap.size := h.cac.le
theorem MS.turnB (h : MS w N p m C a mp v l W V L n D A) (hb : Below w.heap.size w w') : MTurn w w' N := MTurn.of_below hb h.le
/-- its set turns -/
theorem MS.setTo (h : MS w N p m C a mp v l W V L n D A) (hs : SetAt w' N p v' l') (hk : OKept w w' N p v v') (hd : ∀ x ∈ l', x.d = ⟨#[]⟩) : MS w' N p m C a mp v' l' W V L n D A ∧ MTurn w w' N :=
  have k := set_turn h.set hk
  ⟨⟨hs, k m _ h.mir rfl, h.low, h.m64, h.m65, h.cac.keep k (fun _ => rfl) (fun _ => rfl) (fun _ => rfl) (fun _ _ => rfl), hd⟩, k.mono fun _ => set_all, hk.below, hk.size⟩
/-- its cache turns -/
theorem MS.cacTo (h : MS w N p m C a mp v l W V L n D A) (t : CTurn w w' N C a mp n' W' V' L' D') : MS w' N p m C a mp v l W' V' L' n' D' A ∧ MTurn w w' N :=
  ⟨⟨set_keepM h.set t.keep (fun _ => rfl) (fun _ => rfl), t.keep m _ h.mir rfl, h.low, h.m64, h.m65, t.st, h.nod⟩, t.keep.mono fun _ => cach_all, t.below, t.size⟩
/-- what was met turns -/
theorem MS.metTo (h : MS w N p m C a mp v l W V L n D A) (k : Nat) (hk : k < 4) (x : Int) : MS (w.setCell ⟨m, k, none⟩ (.int .u64 x)) N p m C a mp v l W V L n D (A.setIfInBounds k (.int .u64 x)) ∧ MTurn w (w.setCell ⟨m, k, none⟩ (.int .u64 x)) N := by
  have hkp : Keep mirP w (w.setCell ⟨m, k, none⟩ (.int .u64 x)) := fun j o hj hp => by
    refine (heap_setCell_far (fun e => ?_) _).trans hj
    subst e
    rw [h.mir] at hj
    obtain rfl := Option.some.inj hj
    simp [mirP] at hp
  have h64 : A[64]? = some (.pointer (some ⟨p, 0, none⟩)) := h.m64
  have h65 : A[65]? = some (.pointer (some ⟨C, 0, none⟩)) := h.m65
  exact ⟨⟨set_keepM h.set hkp (fun _ => rfl) (fun _ => rfl), heap_set_self h.mir k _, h.low, by rw [Array.getElem?_setIfInBounds_ne (by omega)]; exact h64, by rw [Array.getElem?_setIfInBounds_ne (by omega)]; exact h65, h.cac.keep hkp (fun _ => rfl) (fun _ => rfl) (fun _ => rfl) (fun _ _ => rfl), h.nod⟩,
    hkp.mono fun _ => mir_all, (Below.refl N w).setCell (p := ⟨m, k, none⟩) h.low _, by simp⟩
theorem MS.drew (h : MS w N p m C a mp v l W V L n D A) : MS w.drew N p m C a mp v l W V L n D A := h.below (below_drew' (Below.refl _ _))
theorem MS.cell (h : MS w N p m C a mp v l W V L n D A) : w.cell? ⟨m, 64, none⟩ = some (.pointer (some ⟨p, 0, none⟩)) ∧ w.cell? ⟨m, 65, none⟩ = some (.pointer (some ⟨C, 0, none⟩)) := by
  have hm := h.mir
  exact ⟨by simp only [World.cell?, hm]; simpa using h.m64, by simp only [World.cell?, hm]; simpa using h.m65⟩
theorem MS.met (h : MS w N p m C a mp v l W V L n D A) {k : Nat} {z : Int} (hz : A[k]? = some (.int .u64 z)) : w.cell? ⟨m, k, none⟩ = some (.int .u64 z) ∧ w.frozen? ⟨m, k, none⟩ = false := by
  have hm := h.mir
  exact ⟨by simp only [World.cell?, hm]; simpa using hz, by simp [World.frozen?, hm]⟩
theorem MTurn.drew (h : MTurn w w' N) : MTurn w w'.drew N := ⟨h.keep, below_drew' h.below, h.size⟩
end
theorem mhasK (k : Nat) (hk : k < 4) (w : World) : Calls Try.prog 49 #[.int .i64 (k : Nat)] w fun e w' => e = .returned (.bool true) ∧ w = w' := by
  have hk2 : (k : Int) < 64 := by omega
  go_enter Try.func49, Try.ntmps49
  go_wp2_with fail
  go_ret
  exact ⟨by first | rfl | exact ret_bool (by simp [hk2]) | simp [hk2], rfl⟩
end Go.Proofs.Ytfgmeeponipjeaa
/-
  A mirror with room for four: Put, whatever it holds.
-/

namespace Go.Proofs.Ytfgmeeponipjeaa
open Go.RowKit
set_option linter.unusedVariables false
set_option linter.unusedSimpArgs false

/-- a mirror at m, of which each block is not elder than F -/
def Mst (w : World) (N m n : Nat) (F : Nat → Int) : Prop := ∃ p C a mp v l W V L D A, MS w N p m C a mp v l W V L n D A ∧ Inv l L D A F
def mxF (F : Nat → Int) (k : Nat) (x : Int) : Nat → Int := fun b => if b = k then max (F b) x else F b
theorem MTurn.itm {w w' : World} {N : Nat} (h : MTurn w w' N) {X : Nat} {c : Array Value} (hx : w.heap[X]? = some (.cells c 54)) : w'.heap[X]? = some (.cells c 54) := h.keep X _ hx rfl
theorem Inv.max_old {l : List HI} {L : Nat → List Int} {D : DataW Unit} {A : Array Value} {F : Nat → Int} (h : Inv l L D A F) {k : Nat} {x z : Int} (hz : A[k]? = some (.int .u64 z)) (hx : x ≤ z) : Inv l L D A (mxF F k x) := fun b hb => by
  obtain ⟨y, h1, h2, h3, h4⟩ := h b hb
  refine ⟨y, h1, ?_, h3, h4⟩
  unfold mxF
  split
  · next e =>
    subst e
    rw [hz] at h1
    injection h1 with h1
    injection h1 with _ h1
    omega
  · exact h2
theorem Inv.put {l : List HI} {L L' : Nat → List Int} {D D' : DataW Unit} {A : Array Value} {F : Nat → Int} (h : Inv l L D A F) (hs : Srt l) {k : Nat} (hk : k < 4) {x z : Int} (hz : A[k]? = some (.int .u64 z)) (hx : z < x) (hL : ∀ y, 0 < kc L' y → y ≠ (k : Int) ∧ 0 < kc L y ∧ dat D' y = dat D y) :
    Inv (layL l ⟨k, x, ⟨#[]⟩⟩) L' D' (A.setIfInBounds k (.int .u64 x)) (mxF F k x) := fun b hb => by
  obtain ⟨y, h1, h2, h3, h4⟩ := h b hb
  by_cases e : b = k
  · subst e
    rw [hz] at h1
    injection h1 with h1
    injection h1 with _ h1
    subst h1
    have hlt : b < A.size := (Array.getElem?_eq_some_iff.1 hz).1
    obtain ⟨q, hq, hqx⟩ := getL_lay_same hs (⟨b, x, ⟨#[]⟩⟩ : HI)
    refine ⟨x, by simp [Array.getElem?_setIfInBounds, hlt], by unfold mxF; rw [if_pos rfl]; omega, fun r hr => ?_, fun hn => ?_⟩
    · have hq : getL (layL l ⟨b, x, ⟨#[]⟩⟩) (b : Int) = some q := hq
      rw [hq] at hr
      obtain rfl := Option.some.inj hr
      exact hqx
    · have hq : getL (layL l ⟨b, x, ⟨#[]⟩⟩) (b : Int) = some q := hq
      rw [hq] at hn
      cases hn
  · have hne : (b : Int) ≠ (k : Int) := by omega
    have hg : getL (layL l ⟨k, x, ⟨#[]⟩⟩) (b : Int) = getL l b := getL_lay_otherM hs _ (show (k : Int) ≠ b by omega)
    refine ⟨y, by rw [Array.getElem?_setIfInBounds_ne (by omega)]; exact h1, by unfold mxF; rw [if_neg e]; exact h2, fun r hr => h3 r (hg ▸ hr), fun hn hp => ?_⟩
    obtain ⟨q1, q2, q3⟩ := hL b hp
    rw [q3]
    exact h4 (hg ▸ hn) q2
set_option maxHeartbeats 3200000 in
set_option maxRecDepth 100000 in
theorem mputW (k : Nat) (hk : k < 4) (x : Int) (hxw : (Lit.int .u64 x).wf = true) (w : World) (N m n : Nat) (F : Nat → Int) (h : Mst w N m n F) :
    Calls Try.prog 19 #[.pointer (some ⟨m, 0, none⟩), .int .i64 (k : Nat), .agg #[.int .u64 x, .string ⟨#[]⟩]] w fun e w' => (∃ b, e = .returned (.bool b)) ∧ Mst w' N m n (mxF F k x) ∧ MTurn w w' N := by
  obtain ⟨p, C, a, mp, v, l, W, V, L, D, A, hM, hI⟩ := h
  obtain ⟨z, hz, -, -, -⟩ := hI k hk
  have hb0 := (Below.refl w.heap.size w).alloc (Nat.le_refl _) (.cells #[.int .u64 x, .string ⟨#[]⟩] 54)
  have hy := heap_alloc_self w (.cells #[.int .u64 x, .string ⟨#[]⟩] 54)
  have hT := hM.turnB hb0
  have h1 := hM.below hb0
  have cm := (mayT_none x).1
  unfold itemA at cm
  have hkk : (k : Int) < 64 := by omega
  have HINV := Lib.hid hI
  have HZ := Lib.hid hz
  clear hM hb0
  go_enter Try.func19, Try.ntmps19
  go_upto_region 1 with fail
  generalize w.alloc (.cells #[.int .u64 x, .string ⟨#[]⟩] 54) = w1 at *
  obtain ⟨d0, d1, -, -⟩ := item_cells hy
  have m3 := (h1.met hz).1
  obtain ⟨N0, hN0⟩ : ∃ N, w1.heap.size = N := ⟨_, rfl⟩
  have HN := Lib.hid hN0
  have HY := Lib.hid hy
  have hlt : w.heap.size < N0 := by rw [← hN0]; exact lt_heap hy
  have hlm : m < N0 := by rw [← hN0]; exact lt_heap h1.mir
  have c1 : ∀ w', N0 ≤ w'.heap.size → Calls Try.prog 49 #[.int .i64 (k : Nat)] w' fun e w'' => e = .returned (.bool true) ∧ Stays N0 w' w'' := fun w' h => (mhasK k hk w').mono fun e w'' ⟨he, hw⟩ => ⟨he, by rw [← hw]; exact stays_refl h⟩
  have c2 : ∀ w', N0 ≤ w'.heap.size → Calls Try.prog 50 #[.agg #[.int .u64 x, .string ⟨#[]⟩]] w' fun e w'' => e = .returned (.bool true) ∧ Stays N0 w' w'' := fun w' h => (cm w').mono fun e w'' ⟨he, hw⟩ => ⟨he, stays_of h hw⟩
  have HM := Lib.hid (And.intro h1 hT)
  clear hy h1 hT cm hN0 hz
  have hcase : x ≤ z ∨ z < x := by omega
  rcases hcase with hxz | hxz
  · have hxd : decide (x ≤ z) = true := decide_eq_true hxz
    go_region_held3 (fun w' => N0 ≤ w'.heap.size ∧ Below N0 w1 w' ∧ ∀ b o, b < N0 → w'.cell? ⟨b, o, none⟩ = w1.cell? ⟨b, o, none⟩) (first | assumption | exact keeps_start HN.out | exact keeps_next (by assumption) (by assumption)) (first | (go_at_call 49; refine Calls.mono (c1 _ (And.left (by assumption))) ?_; rintro e wz ⟨rfl, hz⟩) | (go_at_call 50; refine Calls.mono (c2 _ (And.left (by assumption))) ?_; rintro e wz ⟨rfl, hz⟩))
    rename_i hfin
    have hbf := hfin.2.1
    rw [← HN.out] at hbf
    have HF := Lib.hid (And.intro (HM.out.1.below hbf) (HM.out.2.trans (HM.out.1.turnB hbf)))
    clear hfin hz c1 c2 d0 d1 m3 hbf
    go_wp2_with fail
    go_ret
    exact ⟨⟨_, rfl⟩, ⟨p, C, a, mp, v, l, W, V, L, D, A, HF.out.1, HINV.out.max_old HZ.out hxz⟩, HF.out.2⟩
  · have hxd : decide (x ≤ z) = false := decide_eq_false (by omega)
    have hxn : ¬ x ≤ z := by omega
    go_region_held3 (fun w' => N0 ≤ w'.heap.size ∧ Below N0 w1 w' ∧ ∀ b o, b < N0 → w'.cell? ⟨b, o, none⟩ = w1.cell? ⟨b, o, none⟩) (first | assumption | exact keeps_start HN.out | exact keeps_next (by assumption) (by assumption)) (first | (go_at_call 49; refine Calls.mono (c1 _ (And.left (by assumption))) ?_; rintro e wz ⟨rfl, hz⟩) | (go_at_call 50; refine Calls.mono (c2 _ (And.left (by assumption))) ?_; rintro e wz ⟨rfl, hz⟩))
    rename_i hfin
    have hbf := hfin.2.1
    rw [← HN.out] at hbf
    have y := below_at hbf (lt_heap HY.out) HY.out
    have HF := Lib.hid (And.intro (HM.out.1.below hbf) (HM.out.2.trans (HM.out.1.turnB hbf)))
    obtain ⟨w2, hw2⟩ : ∃ W, W = wz := ⟨_, rfl⟩
    subst hw2
    clear hfin hz c1 c2 d0 d1 m3 hbf HM
    obtain ⟨d0, d1, -, -⟩ := item_cells y
    obtain ⟨m3, f3⟩ := HF.out.1.met HZ.out
    obtain ⟨hM4, hT4⟩ := HF.out.1.metTo k hk x
    have HM4 := Lib.hid (And.intro hM4.drew (HF.out.2.trans hT4).drew)
    have y4 := (hT4.drew).itm y
    clear hM4 hT4
    go_upto_region 3 with fail
    go_region
    generalize (w2.setCell ⟨m, k, none⟩ (.int .u64 x)).drew = w4 at *
    clear d0 d1 m3 f3 HF y
    obtain ⟨d0, d1, -, -⟩ := item_cells y4
    obtain ⟨m64, m65⟩ := HM4.out.1.cell
    have cs := sput _ N p v l HM4.out.1.set.drew ⟨k, x, ⟨#[]⟩⟩ true (mayT_none x) hxw (show (⟨#[]⟩ : ByteArray).size ≤ 40 by decide)
    unfold itemA at cs
    dsimp only at cs
    have hpl : putL true l (⟨k, x, ⟨#[]⟩⟩ : HI) = layL l ⟨k, x, ⟨#[]⟩⟩ := by unfold putL inB; rw [if_pos (by simp; omega)]
    rw [hpl] at cs
    obtain ⟨pb, hpb⟩ : ∃ pb, putsL true l (⟨k, x, ⟨#[]⟩⟩ : HI) = pb := ⟨_, rfl⟩
    rw [hpb] at cs
    clear hpl hpb
    go_upto_region 4 with fail
    go_region_with (go_at_call 51; refine Calls.mono cs ?_; rintro e w5 ⟨rfl, v', hs5, hk5⟩)
    all_goals
      have hD := HM4.out.1.drew
      obtain ⟨hM5, hT5⟩ := hD.setTo hs5 hk5 (fun q hq => (mem_lay hq).elim (hD.nod q) (fun e => by rw [e]))
      have HM5 := Lib.hid (And.intro hM5 (HM4.out.2.drew.trans hT5))
      have cc := cdropW (k : Int) w5 N C a mp W V L n D hM5.cac ⟨by omega, by omega⟩
      obtain ⟨m64', m65'⟩ := hM5.cell
      have HSR := Lib.hid HM4.out.1.set.2.2.2
      clear hs5 hk5 hM5 hT5 hD cs d0 d1 m64 m65 y4 HM4
      go_wp2_with fail
      refine Calls.mono cc ?_
      rintro e w6 ⟨rfl, W', V', L', D', ht6, hL6⟩
      obtain ⟨hM6, hT6⟩ := HM5.out.1.cacTo ht6
      have HM6 := Lib.hid (And.intro hM6 (HM5.out.2.trans hT6))
      have HL := Lib.hid hL6
      clear ht6 hL6 hM6 hT6 cc
      go_wp2_with fail
      go_ret
      exact ⟨⟨_, rfl⟩, ⟨p, C, a, mp, v', _, W', V', L', D', _, HM6.out.1, HINV.out.put HSR.out hk HZ.out hxz HL.out⟩, HM6.out.2⟩
end Go.Proofs.Ytfgmeeponipjeaa
