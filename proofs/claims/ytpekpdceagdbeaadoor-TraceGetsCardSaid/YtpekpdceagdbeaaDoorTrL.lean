/-
  Whatever bytes come: they are an act that has these bytes, or none.
-/
import Derived.Test.YtpekpdceagdbeaaDoorTrK
namespace Go.Proofs.YtpekpdceagdbeaaDoor
open Go.RowKit
set_option linter.unusedVariables false
set_option linter.unusedSimpArgs false

theorem frameB_len {t : List UInt8} (h : t.length ≤ 16384) : 0 < (frameB t).length ∧ (frameB t).length ≤ t.length + 13 := by
  have hf : frameB t = putN t.length ++ t ++ beN 4 (ofN t) := by unfold frameB; rw [if_neg (by omega)]
  have h1 := putN_length t.length (by omega)
  have h2 := beN_length 4 (ofN t)
  rw [hf]
  simp only [List.length_append, h2]
  omega
theorem tmod_lt {a b : Int} (hb : 0 < b) : -b < a.tmod b ∧ a.tmod b < b := by
  constructor
  · have h := Int.tmod_lt_of_pos (-a) hb
    rw [Int.neg_tmod] at h
    omega
  · exact Int.tmod_lt_of_pos a hb
theorem place_facts (a : Int) (fl : Nat) (h1 : 0 < fl) (h2 : fl ≤ 500) : ∃ r K : Int, a.tmod (fl : Int) = r ∧ IntKind.i64.wrap (r + (fl : Int)) = r + (fl : Int) ∧ wrap64 (r + (fl : Int)) = r + (fl : Int) ∧ (r + (fl : Int)).tmod (fl : Int) = K ∧ 0 ≤ K ∧ K < (fl : Int) := by
  have hr2 := tmod_lt (a := a) (b := (fl : Int)) (by omega)
  have hK2 := tmod_lt (a := a.tmod (fl : Int) + (fl : Int)) (b := (fl : Int)) (by omega)
  have hw : wrap64 (a.tmod (fl : Int) + (fl : Int)) = a.tmod (fl : Int) + (fl : Int) := by unfold wrap64; omega
  refine ⟨_, _, rfl, ?_, hw, rfl, Int.tmod_nonneg _ (by omega), hK2.2⟩
  rw [IntKind.wrap_i64]; omega
theorem cut_facts (n fl : Nat) (K : Int) (hn : n ≤ 9223372036854775807) (h0 : 0 ≤ K) (h1 : K < (fl : Int)) (h2 : fl ≤ 500) : ∃ tq b1 q : Int, min (n : Int) 4 = tq ∧ 0 ≤ tq ∧ tq ≤ (n : Int) ∧ tq ≤ 4 ∧ bits .and .i64 (n : Int) 1 = b1 ∧ IntKind.i64.wrap (K + b1) = K + b1 ∧ wrap64 (K + b1) = K + b1 ∧ min (K + b1) (fl : Int) = q ∧ 0 ≤ q ∧ q ≤ (fl : Int) ∧ (n : Int) ≤ 9223372036854775807 := by
  have hm : bits .and .i64 (n : Int) 1 = (n : Int) % 2 := mask_mod (n : Int) 1 1 (by decide) (by decide)
  have hw : wrap64 (K + (n : Int) % 2) = K + (n : Int) % 2 := by unfold wrap64; omega
  refine ⟨_, _, _, rfl, by omega, by omega, by omega, hm, ?_, hw, rfl, by omega, by omega, by omega⟩
  rw [IntKind.wrap_i64]; omega
def noT : TA := ⟨-1, 0, 0, 0, 0, 0, 0, [], false, [], [], []⟩
theorem noT_may : ¬ MayT noT := by decide
theorem errG_canon {s : List UInt8} (h : getE s = 0) (he : errG s = 0) : MayT (outG s) ∧ frameB (encT (outG s)) = s := by
  unfold errG at he
  rw [if_pos h] at he
  obtain ⟨h1, h2⟩ := act_canon he
  unfold outG outT
  rw [if_pos h, if_pos he]
  exact ⟨h1, by rw [h2, frame_canon h]⟩
set_option maxHeartbeats 12800000 in
set_option maxRecDepth 100000 in
theorem tracegets_law (c : Array Value) (at' : Int) (by' : ByteArray) (w : World) (hc : Fits w actSh c.toList) (ha : (Lit.int .i64 at').wf = true) (hs : by'.size ≤ maxLen) (hT : Tab w) :
    Calls Tryd.prog 9 #[.agg c, .int .i64 at', .string by'] w fun e w' => e = .returned (.bool true) ∧ Below w.heap.size w w' := by
  obtain ⟨t, aM, aC, pM, pC, rfl, hw, hat, hpc⟩ := fits_act hc
  unfold maxLen at hs
  have hx := heap_alloc_self w (.cells (actC t (.slice aM t.M.length pM) (.slice aC t.C.length pC)) 64)
  have hb := (Below.refl w.heap.size w).alloc (Nat.le_refl _) (.cells (actC t (.slice aM t.M.length pM) (.slice aC t.C.length pC)) 64)
  have cn := lnear t 0 aM aC pM pC _ (hat.below hb) hw (by decide) hpc
  have HT := Lib.hid hT
  have HB := Lib.hid hb
  clear hat hw hpc hT hc
  go_enter Tryd.func9, Tryd.ntmps9
  go_upto_region 1 with fail
  generalize w.alloc (.cells (actC t (.slice aM t.M.length pM) (.slice aC t.C.length pC)) 64) = w1 at *
  obtain ⟨d0, d1, d2, d3, d4, d5, d6, d7, d8, d9, d10, d11⟩ := actIn hx
  unfold actC at cn
  clear hb hx
  go_wp2_with fail
  refine Calls.mono cn ?_
  rintro e w2 ⟨⟨x, vm, vc, rfl, hat, hnr⟩, hb2⟩
  clear d0 d1 d2 d3 d4 d5 d6 d7 d8 d9 d10 d11 cn
  obtain ⟨hmx, hxd, hxs⟩ := hnr.2 ⟨by decide, by decide⟩
  have HB2 := Lib.hid (HB.out.trans (hb2.mono HB.out.size))
  have cl := lput x vm vc w2 hat hnr.1
  have hel := enc_len hmx
  have hfl := frameB_len (t := encT x) (by omega)
  generalize frameB (encT x) = F at *
  have hfl2 : F.length ≤ 500 := by omega
  have hfl1 := hfl.1
  unfold actC at cl
  clear hb2 HB hat hnr hmx hxd hxs hel hfl
  go_wp2_with fail
  refine Calls.mono cl ?_
  rintro e w3 ⟨rfl, hb3⟩
  have HB3 := Lib.hid (HB2.out.trans (hb3.mono HB2.out.size))
  clear hb3 HB2 cl
  obtain ⟨fl, hfle⟩ : ∃ n, F.length = n := ⟨_, rfl⟩
  rw [hfle] at hfl1 hfl2
  obtain ⟨FB, hFB⟩ : ∃ B : ByteArray, (⟨F.toArray⟩ : ByteArray) = B := ⟨_, rfl⟩
  have hfz : FB.size = fl := by rw [← hFB]; exact hfle
  rw [hFB]
  clear hFB hfle
  obtain ⟨r, K, hr, hrw, hrw', hK, hK0, hK1⟩ := place_facts at' fl hfl1 hfl2
  obtain ⟨tq, b1, q, ht, ht0, ht1, ht4, hb1, hw2, hw2', hq, hq0, hq1, hyl⟩ := cut_facts by'.size fl K hs hK0 hK1 hfl2
  have hne : ((fl : Int) == 0) = false := by simp; omega
  have hne2 : ¬ (fl : Int) = 0 := by omega
  obtain ⟨P1, hP1⟩ : ∃ P, FB.extract 0 K.toNat = P := ⟨_, rfl⟩
  have hp1 : P1.size ≤ 500 := by rw [← hP1, ByteArray.size_extract, hfz]; omega
  obtain ⟨P2, hP2⟩ : ∃ P, by'.extract 0 tq.toNat = P := ⟨_, rfl⟩
  have hp2 : P2.size ≤ 4 := by rw [← hP2, ByteArray.size_extract]; omega
  obtain ⟨P3, hP3⟩ : ∃ P, FB.extract q.toNat fl = P := ⟨_, rfl⟩
  have hp3 : P3.size ≤ 500 := by rw [← hP3, ByteArray.size_extract, hfz]; omega
  have hs1 : P1.size + P2.size ≤ 9223372036854775807 := by omega
  have hs2 : P1.size + P2.size + P3.size ≤ 9223372036854775807 := by omega
  have hkf : K ≤ (fl : Int) := by omega
  have hgs : (P1 ++ P2 ++ P3).size ≤ 1004 := by rw [ByteArray.size_append, ByteArray.size_append]; omega
  have HGS := Lib.hid hgs
  clear hgs hfl1 hfl2 hyl hs
  go_upto_region 3 with fail
  clear hr hK hrw hrw' hne hne2
  go_quiet (fail)
  have HB4 := Lib.hid (below_drewN' HB3.out nq)
  generalize w3.drewN nq = w4 at *
  obtain ⟨gl, hgl, hgn⟩ := str_list (P1 ++ P2 ++ P3)
  have hg4 : gl.length ≤ 1004 := by rw [hgn]; exact HGS.out
  rw [hgl]
  have cg := tget gl w4 (HT.out.below HB4.out)
  have cr := fun w' => rget3 gl w' (by omega)
  clear hP1 hP2 hP3 hp1 hp2 hp3 hs1 hs2 hkf hgl hgn hfz hw2 hw2' hq hq0 hq1 ht ht0 ht1 ht4 hb1 hK0 hK1 HGS HB3
  obtain ⟨y, hy⟩ : ∃ y, outG gl = y := ⟨_, rfl⟩
  obtain ⟨E, hE⟩ : ∃ e, errG gl = e := ⟨_, rfl⟩
  obtain ⟨f, hf⟩ : ∃ e, getE gl = e := ⟨_, rfl⟩
  have HYE := Lib.hid (And.intro hy (And.intro hE hf))
  have hle := outG_le gl
  rw [hy] at hle cg
  rw [hE] at cg
  simp only [hf] at cr
  generalize getB gl = Bg at cr
  have HLE := Lib.hid hle
  clear hy hE hf hle
  go_wp2_with fail
  refine Calls.mono cg ?_
  rintro e w5 ⟨⟨um, uc, rfl, hr⟩, hb5⟩
  have hua := hr.actAt (by have := HLE.out.1.1; omega) (by have := HLE.out.2.1; omega)
  obtain ⟨bM, qM, bC, qC, e1, e2⟩ := hua.form
  subst e1 e2
  obtain ⟨mk, hmk⟩ : ∃ n, y.M.length = n := ⟨_, rfl⟩
  obtain ⟨ck, hck⟩ : ∃ n, y.C.length = n := ⟨_, rfl⟩
  rw [hmk, hck] at hua ⊢
  have HB5 := Lib.hid (HB4.out.trans (hb5.mono HB4.out.size))
  clear hb5 hr cg hmk hck
  have hq := heap_alloc_self w5 (.cells (actC y (.slice bM mk qM) (.slice bC ck qC)) 64)
  have hbq := (Below.refl w5.heap.size w5).alloc (Nat.le_refl _) (.cells (actC y (.slice bM mk qM) (.slice bC ck qC)) 64)
  have HY6 := Lib.hid (And.intro hq (And.intro (hua.below hbq) (HB5.out.trans (hbq.mono HB5.out.size))))
  clear hq hbq hua HB5
  unfold actC at HY6 ⊢
  go_upto_region 5 with fail
  obtain ⟨w6, hw6⟩ : ∃ w6, w5.alloc (.cells #[.int .i64 y.W, .int .i64 y.P, .int .i64 y.A, .int .i64 y.B, .int .i64 y.aW, .int .i64 y.aA, .int .i64 y.aL, .string ⟨y.D.toArray⟩, .bool y.u, .slice bM mk qM, .slice bC ck qC, .string ⟨y.S.toArray⟩] 64) = w6 := ⟨_, rfl⟩
  rw [hw6] at HY6 ⊢
  clear hw6
  obtain ⟨R, hR⟩ : ∃ R, w5.heap.size = R := ⟨_, rfl⟩
  rw [hR] at HY6 ⊢
  clear hR
  go_wp2_with fail
  refine Calls.mono (cr _) ?_
  rintro e w7 ⟨rfl, hb7⟩
  have HY7 := Lib.hid (And.intro (below_at hb7 (lt_heap HY6.out.1) HY6.out.1) (And.intro (HY6.out.2.1.below hb7) (HY6.out.2.2.trans (hb7.mono HY6.out.2.2.size))))
  clear hb7 HY6 cr
  have aw := awake51 w7 (HT.out.below HY7.out.2.2)
  by_cases hf0 : f = 0
  · subst hf0
    go_wp2_with fail
    refine Calls.mono aw ?_
    rintro e w8 ⟨rfl, hb8⟩
    have HY8 := Lib.hid (And.intro (below_at hb8 (lt_heap HY7.out.1) HY7.out.1) (And.intro (HY7.out.2.1.below hb8) (HY7.out.2.2.trans (hb8.mono HY7.out.2.2.size))))
    clear hb8 aw
    by_cases hE0 : E = 0
    · subst hE0
      obtain ⟨hm, hcan⟩ := errG_canon (s := gl) HYE.out.2.2 HYE.out.2.1
      rw [HYE.out.1] at hm hcan
      have ct := tmay y (.slice bM mk qM) (.slice bC ck qC) w8 HY8.out.2.1 (by have := hm.2.2.2; omega)
      have cl := fun w' (hb : Below w8.heap.size w8 w') => lput y (.slice bM mk qM) (.slice bC ck qC) w' (HY8.out.2.1.below hb) (Puts.of_may hm)
      rw [decide_eq_true hm] at ct
      rw [hcan] at cl
      unfold actC at ct cl
      obtain ⟨x0, x1, x2, x3, x4, x5, x6, x7, x8, x9, x10, x11⟩ := actIn (t := y) (vm := .slice bM mk qM) (vc := .slice bC ck qC) HY8.out.1
      clear hm hcan
      go_wp2_with fail
      refine Calls.mono ct ?_
      rintro e w9 ⟨rfl, hb9⟩
      have hy9 := below_at hb9 (lt_heap HY8.out.1) HY8.out.1
      have HB9 := Lib.hid (HY8.out.2.2.trans (hb9.mono HY8.out.2.2.size))
      have cl9 := cl w9 hb9
      clear x0 x1 x2 x3 x4 x5 x6 x7 x8 x9 x10 x11
      obtain ⟨x0, x1, x2, x3, x4, x5, x6, x7, x8, x9, x10, x11⟩ := actIn (t := y) (vm := .slice bM mk qM) (vc := .slice bC ck qC) hy9
      clear hb9 ct cl hy9
      go_wp2_with fail
      refine Calls.mono cl9 ?_
      rintro e w10 ⟨rfl, hb10⟩
      have HB10 := Lib.hid (HB9.out.trans (hb10.mono HB9.out.size))
      clear hb10 cl9 x0 x1 x2 x3 x4 x5 x6 x7 x8 x9 x10 x11
      go_wp2_with fail
      go_ret
      exact ⟨rfl, HB10.out⟩
    · have h23 : E = 2 ∨ E = 3 := by
        have h := act_err (getB gl)
        have e : errG gl = actE (getB gl) := by unfold errG; rw [if_pos HYE.out.2.2]
        rw [HYE.out.2.1] at e
        rw [← e] at h
        exact h.resolve_left hE0
      have cn := tmay noT (.slice none 0 0) (.slice none 0 0) w8 ⟨⟨none, 0, rfl, by decide, .inl rfl⟩, ⟨none, 0, rfl, by decide, .inl rfl⟩⟩ (by decide)
      rw [decide_eq_false noT_may] at cn
      unfold actC noT at cn
      clear hE0
      rcases h23 with rfl | rfl
      all_goals
        go_wp2_with fail
        refine Calls.mono cn ?_
        rintro e w9 ⟨rfl, hb9⟩
        have HB9 := Lib.hid (HY8.out.2.2.trans (hb9.mono HY8.out.2.2.size))
        clear hb9 cn
        go_wp2_with fail
        go_ret
        exact ⟨rfl, HB9.out⟩
  · have hef : E = f := by
      have e : errG gl = getE gl := by unfold errG; rw [if_neg (by rw [HYE.out.2.2]; exact hf0)]
      rw [HYE.out.2.1, HYE.out.2.2] at e
      exact e
    have HYE1 := Lib.hid HYE.out.1
    clear HYE
    subst hef
    have hfb : (E != 0) = true := by simpa using hf0
    clear hf0
    go_wp2_with fail
    refine Calls.mono aw ?_
    rintro e w8 ⟨rfl, hb8⟩
    have HB8 := Lib.hid (HY7.out.2.2.trans (hb8.mono HY7.out.2.2.size))
    clear hb8 aw
    go_wp2_with fail
    go_ret
    exact ⟨ret_bool (by simp), HB8.out⟩
end Go.Proofs.YtpekpdceagdbeaaDoor
