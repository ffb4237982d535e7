/-
  Several texts, laid together.
-/
import Derived.Test.YtadejhlljdcocaaMg31
/-
  ExtentRises' law.
-/

namespace Go.Proofs.Ytadejhlljdcocaa
open Go.RowKit
set_option linter.unusedVariables false
set_option linter.unusedSimpArgs false

theorem layL_lenR (x : HI) : ∀ l : List HI, (layL l x).length ≤ l.length + 1
  | [] => by simp [layL]
  | y :: t => by
    have := layL_lenR x t
    simp only [layL]
    repeat' split
    all_goals simp only [List.length_cons]
    all_goals omega
theorem putAll_lenR (xs : List HI) : ∀ l : List HI, (putAll l xs).length ≤ l.length + xs.length := by
  induction xs with
  | nil => intro l; exact Nat.le_refl _
  | cons x t ih =>
    intro l
    refine Nat.le_trans (ih _) ?_
    have h : (putB l x).length ≤ l.length + 1 := by
      unfold putB putL
      repeat' split
      all_goals first | exact layL_lenR x l | omega
    simp only [List.length_cons]
    omega
theorem keeps_two_alloc {N : Nat} {w : World} {o1 o2 : Obj} (h : w.heap.size = N) : N ≤ (((w.alloc o1).alloc o2).drew).heap.size ∧ Below N w ((w.alloc o1).alloc o2).drew ∧ ∀ c k, c < N → (((w.alloc o1).alloc o2).drew).cell? ⟨c, k, none⟩ = w.cell? ⟨c, k, none⟩ := by
  have hb := below_drew' ((((Below.refl w.heap.size w).alloc (Nat.le_refl _) o1)).alloc (by simp) o2)
  rw [h] at hb
  exact ⟨h ▸ hb.size, hb, fun c k hc => hb.cell (p := ⟨c, k, none⟩) hc⟩
/-- the places of those that end below a version -/
theorem bef_at {V : Int} {E : List EX} {i : Nat} {e : EX} (h : E[i]? = some e) (he : e.hi ≤ V) : (befL V E)[(befL V (E.take i)).length]? = some e := by
  obtain ⟨hi, e2⟩ := List.getElem?_eq_some_iff.1 h
  have hs : befL V E = befL V (E.take i) ++ befL V (E.drop i) := by
    unfold befL
    rw [← List.filter_append, List.take_append_drop]
  rw [hs, List.getElem?_append_right (Nat.le_refl _), Nat.sub_self, List.drop_eq_getElem_cons hi, e2]
  simp [befL, he]
/-- versions that may be -/
def OkV (l : List EX) : Prop := ∀ e ∈ l, (Lit.int .u64 e.lo).wf = true ∧ (Lit.int .u64 e.hi).wf = true
theorem okv_step {acc : List EX} {h : HI} (ho : OkV acc) (hw : (Lit.int .u64 h.v).wf = true) : OkV (stepE acc h) := by
  have hmin : ∀ a b : Int, min a b = a ∨ min a b = b := fun a b => by omega
  have hmax : ∀ a b : Int, max a b = a ∨ max a b = b := fun a b => by omega
  rcases acc_cases acc with rfl | ⟨A, e, rfl⟩
  · rw [step_nil]
    intro x hx
    rw [List.mem_singleton.1 hx]
    exact ⟨hw, hw⟩
  · have he := ho e (by simp)
    by_cases q : e.f + e.n = h.b
    · rw [step_join q]
      intro x hx
      rcases List.mem_append.1 hx with r | r
      · exact ho x (List.mem_append_left _ r)
      · rw [List.mem_singleton.1 r]
        refine ⟨?_, ?_⟩
        · show (Lit.int .u64 (min e.lo h.v)).wf = true
          rcases hmin e.lo h.v with t | t <;> rw [t]
          · exact he.1
          · exact hw
        · show (Lit.int .u64 (max e.hi h.v)).wf = true
          rcases hmax e.hi h.v with t | t <;> rw [t]
          · exact he.2
          · exact hw
    · rw [step_new q]
      intro x hx
      rcases List.mem_append.1 hx with r | r
      · exact ho x r
      · rw [List.mem_singleton.1 r]
        exact ⟨hw, hw⟩
theorem okv_fold (l : List HI) : ∀ {acc : List EX}, OkV acc → (∀ x ∈ l, Good x) → OkV (l.foldl stepE acc) := by
  induction l with
  | nil => exact fun ho _ => ho
  | cons x t ih => exact fun ho hg => ih (okv_step ho (good_wf (hg x (by simp))).2.1) fun y hy => hg y (by simp [hy])
theorem held_eql (h : HI) (w : World) (hb : (Lit.int .i64 h.b).wf = true) (hx : (Lit.int .u64 h.v).wf = true) (hs : h.d.size ≤ maxLen) :
    (binOp .eql 125 (.agg #[.int .i64 h.b, .int .u64 h.v, .string h.d]) (.agg #[.int .i64 h.b, .int .u64 h.v, .string h.d])).run Try.prog w = .ok (.bool true) w :=
  (eq_deep (m := 5) (D := 5) (D' := 5) heldkey (by decide) (held_formed _ _ _) (held_formed _ _ _) (held_lits _ _ _ hb hx hs) (held_lits _ _ _ hb hx hs) true (by simp) w).1
set_option maxHeartbeats 6400000 in
set_option maxRecDepth 400000 in
theorem extentrises_law (a0 : Option Addr) (len0 cap0 : Nat) (V : Int) (w : World) (hf0 : Fits w (.slice heldSh) [.slice a0 len0 cap0]) (hver : (Lit.int .u64 V).wf = true) :
    Calls Try.prog 14 #[.slice a0 len0 cap0, .int .u64 V] w fun e w' => e = .returned (.bool true) ∧ Below w.heap.size w w' := by
  obtain ⟨rs, rfl, hr, hro⟩ := fits_held hf0
  have c1 := near09 rs hro w _ hr
  have hxo := nearL_ok hro
  have HS := Lib.hid (srt_putAll Srt.nil hxo)
  have hm := allM_putAll (l := []) (xs := nearL rs) (by intro x hx; cases hx)
  have hl12 := putAll_lenR (nearL rs) []
  have hn12 := nearL_len rs
  obtain ⟨X, hX⟩ : ∃ X, nearL rs = X := ⟨_, rfl⟩
  rw [hX] at c1 hxo HS hm hl12 hn12
  have HXO := Lib.hid hxo
  obtain ⟨L, hL⟩ : ∃ L, putAll [] X = L := ⟨_, rfl⟩
  rw [hL] at HS hm hl12
  have hL12 : L.length ≤ 12 := by simp at hl12; omega
  have HL := Lib.hid hL
  have HOF := Lib.hid (of_self HS.out hm)
  have HPO := Lib.hid (of_perm HS.out hm (rise_perm L))
  have hel := ext_len L
  have HOK := Lib.hid (ok_ext HS.out.all)
  have hg := extguard
  have hg2 := heldguard
  have HKV := Lib.hid (show OkV (extL L) from okv_fold L (acc := []) (by intro x hx; cases hx) HS.out.all)
  have hrl := rise_len L
  have HRO := Lib.hid (show ∀ x ∈ riseL L, Good x from fun x hx => HS.out.all x ((rise_perm L).mem_iff.1 hx))
  clear hr hro hxo hX hL hm hf0 hl12 hn12
  go_enter Try.func14, Try.ntmps14
  go_wp2_with fail
  refine Calls.mono c1 ?_
  rintro e w1 ⟨v1, rfl, ho1, hb1⟩
  have c2 := rof X HXO.out w1 v1 (SR.owns ho1)
  rw [HL.out] at c2
  have HB1 := Lib.hid hb1
  clear ho1 hb1 c1
  go_wp2_with fail
  refine Calls.mono c2 ?_
  rintro e w2 ⟨v2, rfl, hm2, -, hb2⟩
  obtain ⟨a2, cap2, rfl, hl2, hm2'⟩ := hm2.form
  unfold maxLen at hm2'
  have R2 := Lib.hid hm2
  have HB2 := Lib.hid (HB1.out.trans (hb2.mono HB1.out.size))
  have c3 := rise L (by omega) w2 _ R2.out
  clear hm2 hb2 c2
  go_wp2_with fail
  refine Calls.mono c3 ?_
  rintro e w3 ⟨v3, rfl, hs3, hb3⟩
  obtain ⟨a3, cap3, rfl, hl3, hm3⟩ := hs3.form
  unfold maxLen at hm3
  have R3 := Lib.hid (And.intro (R2.out.below hb3) hs3)
  have HB3 := Lib.hid (HB2.out.trans (hb3.mono HB2.out.size))
  have c4 := eldest L w3 _ R3.out.1
  clear hs3 hb3 c3
  go_wp2_with fail
  refine Calls.mono c4 ?_
  rintro e w4 ⟨B, rfl, hB, hb4⟩
  have HEL := Lib.hid (hB.last HS.out)
  have R4 := Lib.hid (And.intro (R3.out.1.below hb4) (R3.out.2.below hb4))
  have HB4 := Lib.hid (HB3.out.trans (hb4.mono HB3.out.size))
  clear hB hb4 c4
  go_wp2_with fail
  refine Calls.mono (awake48 _) ?_
  rintro e w5 ⟨rfl, hb5⟩
  have R5 := Lib.hid (And.intro (R4.out.1.below hb5) (R4.out.2.below hb5))
  have HB5 := Lib.hid (HB4.out.trans (hb5.mono HB4.out.size))
  have c6 := rof (riseL L) (fun x hx => (HRO.out x hx).ok) w5 _ (by rw [hrl]; exact R5.out.2)
  rw [HPO.out] at c6
  clear hb5
  go_wp2_with fail
  refine Calls.mono c6 ?_
  rintro e w6 ⟨v6, rfl, hm6, -, hb6⟩
  obtain ⟨a6, cap6, rfl, hl6, hm6'⟩ := hm6.form
  have R6 := Lib.hid (And.intro (R5.out.1.below hb6) (R5.out.2.below hb6))
  have HB6 := Lib.hid (HB5.out.trans (hb6.mono HB5.out.size))
  have c7 := rsame L w6 _ _ hm6 R6.out.1 HS.out.all
  clear hm6 hb6 c6
  go_wp2_with fail
  refine Calls.mono c7 ?_
  rintro e w7 ⟨rfl, hb7⟩
  have R7 := Lib.hid (And.intro (R6.out.1.below hb7) (R6.out.2.below hb7))
  have HB7 := Lib.hid (HB6.out.trans (hb7.mono HB6.out.size))
  have hB0 : decide (B ≥ 0) = decide ((L.length : Int) > 0) := by
    rcases HEL.out with ⟨rfl, hl⟩ | ⟨k, rfl, hk, -⟩
    · rw [hl]; rfl
    · rw [decide_eq_true (show (k : Int) ≥ 0 by omega), decide_eq_true (show (L.length : Int) > 0 by omega)]
  clear hb7 c7
  go_upto_block 0 with fail
  go_cut [8] from 46 to 83 (fun iv wx => Hid ((SR wx (.slice a2 L.length cap2) 3 L.length (hCells L) ∧ SR wx (.slice a3 L.length cap3) 3 L.length (hCells (riseL L))) ∧ Below w.heap.size w wx))
  case first =>
    go_wp2_with fail
    go_loopw [8] (fun iv wx => ∃ j : Nat, 1 ≤ j ∧ (j ≤ L.length ∨ j = 1) ∧ iv = .int .i64 j ∧ Hid ((SR wx (.slice a2 L.length cap2) 3 L.length (hCells L) ∧ SR wx (.slice a3 L.length cap3) 3 L.length (hCells (riseL L))) ∧ Below w.heap.size w wx)) (fun iv _ => L.length - (intOf iv).toNat)
    case atStart => exact ⟨1, Nat.le_refl _, .inr rfl, rfl, Lib.hid ⟨R7.out, HB7.out⟩⟩
    case round =>
      obtain ⟨j, hj1, hjn, rfl, HR⟩ := hrel
      by_cases hlt : j < L.length
      · obtain ⟨i, rfl⟩ : ∃ i, j = i + 1 := ⟨j - 1, by omega⟩
        obtain ⟨x, hx⟩ : ∃ x, (riseL L)[i]? = some x := ⟨_, List.getElem?_eq_getElem (by omega)⟩
        obtain ⟨y, hy⟩ : ∃ y, (riseL L)[i + 1]? = some y := ⟨_, List.getElem?_eq_getElem (by omega)⟩
        have hs3 := HR.out.1.2
        obtain ⟨b, off, hb, hbl, c0, c1, c2⟩ := sr_held hs3 i x hx
        subst hb
        obtain ⟨b', off', he, -, d0, d1, d2⟩ := sr_held hs3 (i + 1) y hy
        cases he
        have HXY := Lib.hid (rise_next HS.out hx hy)
        have hw3 : IntKind.i64.wrap (i : Int) = i := by rw [IntKind.wrap_i64]; omega
        have hw1 : IntKind.i64.wrap ((i : Int) + 1 - 1) = i := by rw [show (i : Int) + 1 - 1 = i by omega, IntKind.wrap_i64]; omega
        have hs2 : (i : Int) + 1 - 1 = i := by omega
        have hn1 : (i : Int) + 1 < L.length := by omega
        have hn0 : (i : Int) < L.length := by omega
        have hz0 : (0 : Int) ≤ i := by omega
        have hz1 : (0 : Int) ≤ (i : Int) + 1 := by omega
        obtain ⟨W0, hW0⟩ : ∃ W, W = wr := ⟨_, rfl⟩
        subst hW0
        obtain ⟨N, hN⟩ : ∃ N, W0.heap.size = N := ⟨_, rfl⟩
        rw [hN] at hbl
        have hks := keeps_start hN
        clear hs3 hx hy
        go_upto_region 8 with fail
        go_cut [9, 10] (fun pv qv wx => ∃ p q : Nat, pv = .pointer (some ⟨p, 0, none⟩) ∧ qv = .pointer (some ⟨q, 0, none⟩) ∧ wx.heap[p]? = some (.cells #[.int .i64 x.b, .int .u64 x.v, .string x.d] 125) ∧ wx.heap[q]? = some (.cells #[.int .i64 y.b, .int .u64 y.v, .string y.d] 125) ∧ Hid (Below N W0 wx))
        case first =>
          have key : ∀ o1 o2 : Obj, (((W0.alloc o1).alloc o2).drew).heap[N]? = some o1 ∧ (((W0.alloc o1).alloc o2).drew).heap[N + 1]? = some o2 := fun o1 o2 => by
            have h1 := heap_alloc_self W0 o1
            have h2 := heap_alloc_self (W0.alloc o1) o2
            rw [show (W0.alloc o1).heap.size = W0.heap.size + 1 by simp, hN] at h2
            rw [hN] at h1
            exact ⟨(Below.heap_alloc _ o2 _ (lt_heap h1)).trans h1, h2⟩
          have HKEY := Lib.hid key
          clear key
          go_region_held3 (fun w' => N ≤ w'.heap.size ∧ Below N W0 w' ∧ ∀ b o, b < N → w'.cell? ⟨b, o, none⟩ = W0.cell? ⟨b, o, none⟩) (first | exact hks | exact keeps_alloc (by assumption) | exact keeps_two_alloc hN) (fail)
          · rename_i hfin
            go_wp2_with fail
            go_meet
            exact ⟨_, _, rfl, rfl, (HKEY.out _ _).1, (HKEY.out _ _).2, Lib.hid hfin.2.1⟩
          · rename_i hfin
            go_wp2_with fail
            go_meet
            exact ⟨_, _, rfl, rfl, (HKEY.out _ _).2, (HKEY.out _ _).1, Lib.hid hfin.2.1⟩
        case rest =>
          obtain ⟨p, q, rfl, rfl, hp, hq, HBW⟩ := hcut
          obtain ⟨W1, hW1⟩ : ∃ W, W = wc := ⟨_, rfl⟩
          subst hW1
          obtain ⟨p0, p1, p2⟩ := held_at hp
          obtain ⟨q0, q1, q2⟩ := held_at hq
          have hbw : Below W0.heap.size W0 W1 := by rw [hN]; exact HBW.out
          have HR1 := Lib.hid (And.intro (And.intro (HR.out.1.1.below hbw) (HR.out.1.2.below hbw)) (HR.out.2.trans (hbw.mono HR.out.2.size)))
          clear hbw hp hq c0 c1 c2 d0 d1 d2 hks
          rcases HXY.out with hlv | ⟨hev, hlb⟩
          · have g1 : decide (y.v < x.v) = false := decide_eq_false (by omega)
            have g2 : (x.v == y.v) = false := beq_eq_false_iff_ne.2 (by omega)
            have g3 : ¬ y.v < x.v := by omega
            clear hlv
            go_wp2_with fail
            go_roundw
            case rel => exact ⟨i + 1 + 1, by omega, by omega, by go_num, HR1⟩
            case measure => simp [intOf]; omega
          · have g1 : decide (y.v < x.v) = false := decide_eq_false (by omega)
            have g2 : (x.v == y.v) = true := beq_iff_eq.2 hev
            have g3 : ¬ y.v < x.v := by omega
            have g4 : decide (y.b ≤ x.b) = false := decide_eq_false (by omega)
            have g5 : ¬ y.b ≤ x.b := by omega
            clear hev hlb
            go_wp2_with fail
            go_roundw
            case rel => exact ⟨i + 1 + 1, by omega, by omega, by go_num, HR1⟩
            case measure => simp [intOf]; omega
      · have hge : ¬ (j : Int) < L.length := by omega
        go_wp2_with fail
        go_meet
        exact HR
  case rest =>
    obtain ⟨W0, hW0⟩ : ∃ W, W = wc := ⟨_, rfl⟩
    subst hW0
    clear R7 HB7 R6 HB6 R5 HB5 R4 HB4 R3 HB3 R2 HB2
    have c8 := ext_of L HS.out.ok W0 _ hcut.out.1.1
    rw [HOF.out] at c8
    go_wp2_with fail
    refine Calls.mono c8 ?_
    rintro e w8 ⟨v8, rfl, hs8, hb8⟩
    obtain ⟨E, hE⟩ : ∃ E, extL L = E := ⟨_, rfl⟩
    rw [hE] at hs8 hel HOK HKV
    obtain ⟨a8, cap8, rfl, hl8, hm8⟩ := hs8.form
    unfold maxLen at hm8
    have R8 := Lib.hid (And.intro (And.intro (hcut.out.1.1.below hb8) (hcut.out.1.2.below hb8)) (And.intro hs8 (hcut.out.2.trans (hb8.mono hcut.out.2.size))))
    have c9 := before V E (by omega) w8 _ hs8
    clear hs8 hb8 c8 hcut
    go_wp2_with fail
    refine Calls.mono c9 ?_
    rintro e w9 ⟨v9, rfl, hs9, hb9⟩
    obtain ⟨S, hS⟩ : ∃ S, befL V E = S := ⟨_, rfl⟩
    rw [hS] at hs9
    obtain ⟨a9, cap9, rfl, hl9, hm9⟩ := hs9.form
    unfold maxLen at hm9
    have R9 := Lib.hid (And.intro (And.intro (R8.out.1.1.below hb9) (R8.out.1.2.below hb9)) (And.intro (R8.out.2.1.below hb9) (And.intro hs9 (R8.out.2.2.trans (hb9.mono R8.out.2.2.size)))))
    have HSE := Lib.hid hS
    clear hs9 hb9 c9 R8
    go_wp2_with fail
    go_loopw [13, 14] (fun kv iv wx => ∃ (i : Nat) (K : Nat), i ≤ E.length ∧ iv = .int .i64 i ∧ kv = .int .i64 K ∧ Hid ((befL V (E.take i)).length = K) ∧ Hid ((SR wx (.slice a2 L.length cap2) 3 L.length (hCells L) ∧ SR wx (.slice a3 L.length cap3) 3 L.length (hCells (riseL L))) ∧ SR wx (.slice a8 E.length cap8) 4 E.length (eCells E) ∧ SR wx (.slice a9 S.length cap9) 4 S.length (eCells S) ∧ Below w.heap.size w wx)) (fun _ iv _ => E.length - (intOf iv).toNat)
    case atStart => exact ⟨0, 0, Nat.zero_le _, rfl, rfl, Lib.hid rfl, R9⟩
    case round =>
      obtain ⟨i, K, hiE, rfl, rfl, HK, HR⟩ := hrel
      clear R9
      obtain ⟨W1, hW1⟩ : ∃ W, W = wr := ⟨_, rfl⟩
      subst hW1
      by_cases hlt : i < E.length
      · obtain ⟨x, hx⟩ : ∃ x, E[i]? = some x := ⟨_, List.getElem?_eq_getElem hlt⟩
        obtain ⟨b, off, rfl, -, d0, d1, d2, d3⟩ := sr_ext HR.out.2.1 i x hx
        have hbn := bef_next (V := V) hx
        have hxm := List.mem_of_getElem? hx
        by_cases hp : x.hi ≤ V
        · have hp1 : decide (V < x.hi) = false := decide_eq_false (by omega)
          have hp2 : ¬ V < x.hi := by omega
          have hat := bef_at hx hp
          rw [HSE.out, HK.out] at hat
          have hKS := (List.getElem?_eq_some_iff.1 hat).1
          obtain ⟨b', off', rfl, -, e0, e1, e2, e3⟩ := sr_ext HR.out.2.2.1 K x hat
          have hok := HOK.out x hxm
          have hkv := HKV.out x hxm
          have hne := fun w => ext_neq x.f x.n x.lo x.hi (wf_of (by omega)) (wf_of (by omega)) hkv.1 hkv.2 w
          have hkd : decide ((S.length : Int) ≤ K) = false := decide_eq_false (by omega)
          have hkg : ¬ ((S.length : Int) ≤ K) := by omega
          have hkN : ¬ S.length ≤ K := by omega
          have hkD : decide (S.length ≤ K) = false := decide_eq_false (by omega)
          have hkI : (K : Int) < S.length := by omega
          have HN := Lib.hid (show (befL V (E.take (i + 1))).length = K + 1 by rw [hbn, if_pos hp, List.length_append, HK.out]; rfl)
          clear hbn hat hx hxm hok hkv hp
          go_upto_region 17 with fail
          go_quiet (fail)
          have hbq := below_drewN' (Below.refl W1.heap.size W1) nq
          have HR2 := Lib.hid (And.intro (And.intro (HR.out.1.1.below hbq) (HR.out.1.2.below hbq)) (And.intro (HR.out.2.1.below hbq) (And.intro (HR.out.2.2.1.below hbq) (below_drewN' HR.out.2.2.2 nq))))
          clear hbq
          go_wp2_with fail
          go_roundw
          case rel => exact ⟨i + 1, K + 1, by omega, by go_num, by go_num, HN, HR2⟩
          case measure => simp [intOf]; omega
        · have hp1 : decide (V < x.hi) = true := decide_eq_true (by omega)
          have hp2 : V < x.hi := by omega
          have HN := Lib.hid (show (befL V (E.take (i + 1))).length = K by rw [hbn, if_neg hp, HK.out])
          clear hbn hx hxm hp
          go_wp2_with fail
          go_roundw
          case rel => exact ⟨i + 1, K, by omega, by go_num, rfl, HN, HR⟩
          case measure => simp [intOf]; omega
      · obtain rfl : i = E.length := by omega
        have hKS : K = S.length := by
          have := HK.out
          rw [List.take_length, HSE.out] at this
          exact this.symm
        subst hKS
        have HB := Lib.hid HR.out.2.2.2
        have hss : ((S.length : Int) == S.length) = true := by simp
        rcases HEL.out with ⟨rfl, -⟩ | ⟨k, rfl, hk, hel2⟩
        · go_wp2_with fail
          go_quiet (fail)
          have HB2 := Lib.hid (below_drewN' HB.out nq)
          go_wp2_with fail
          go_ret
          exact ⟨rfl, HB2.out⟩
        · obtain ⟨z, hz⟩ : ∃ z, L[k]? = some z := ⟨_, List.getElem?_eq_getElem hk⟩
          have hz0 := eld_first HS.out hel2
          rw [hz] at hz0
          obtain ⟨b2, off2, rfl, -, e0, e1, e2⟩ := sr_held HR.out.1.1 k z hz
          obtain ⟨b3, off3, rfl, -, f0, f1, f2⟩ := sr_held HR.out.1.2 0 z hz0
          simp only [Nat.zero_mul, Nat.add_zero] at f0 f1 f2
          have hwz := good_wf (HS.out.all z (List.mem_of_getElem? hz))
          have heq := fun w => held_eql z w hwz.1 hwz.2.1 hwz.2.2
          have hk0 : decide ((k : Int) < 0) = false := decide_eq_false (by omega)
          have hk1 : ¬ (k : Int) < 0 := by omega
          have hk2 : (k : Int) < L.length := by omega
          have hk3 : (0 : Int) < L.length := by omega
          clear hz hz0 hel2 hwz
          go_wp2_with fail
          go_quiet (fail)
          have HB2 := Lib.hid (below_drewN' HB.out nq)
          go_wp2_with fail
          go_ret
          exact ⟨rfl, HB2.out⟩
end Go.Proofs.Ytadejhlljdcocaa
