/-
  JournalLast.
-/
import Derived.Test.YtgnnijpfkgmomaaGreatDoorJlk
import Derived.Test.YtgnnijpfkgmomaaGreatDoorFits
namespace Go.Proofs.YtgnnijpfkgmomaaGreatDoor
open Go.RowKit
set_option linter.unusedVariables false
set_option linter.unusedSimpArgs false

theorem put_small : ∀ n : Fin 256, 1 ≤ n.val → (putN n.val).length = 2 := by decide +kernel
theorem textL_small (s : ByteArray) (h1 : 1 ≤ s.size) (h2 : s.size ≤ 255) : (textL s).length = 2 + s.size := by
  unfold textL
  rw [List.length_append, bL_len, put_small ⟨s.size, by omega⟩ h1]
theorem recS_exact (p : JP) (h1 : 1 ≤ p.k.size) (h2 : p.k.size ≤ 255) (h3 : 1 ≤ p.v.size) (h4 : p.v.size ≤ 255) : (recS p).size = 5 + p.k.size + p.v.size := by
  rw [recS_len]
  unfold JO.b
  rw [if_neg (by simp)]
  simp only [List.length_cons, List.length_append]
  rw [textL_small p.k h1 h2, textL_small p.v h3 h4]
  omega
abbrev actShJ : Sh := .two (.int .i64) (.two (.int .i64) (.two (.int .i64) (.two (.int .u64) .unit)))
/-- the cells of an act that came in -/
theorem actJ_cells {w : World} {b off j : Nat} (h : ∃ ys, ys.length = actShJ.size ∧ (∀ (k : Nat) u, ys[k]? = some u → w.cell? ⟨b, off + j * actShJ.size + k, none⟩ = some u) ∧ Fits w actShJ ys) :
    ∃ tw tk tl tu, w.cell? ⟨b, off + j * 4, none⟩ = some (.int .i64 tw) ∧ w.cell? ⟨b, off + j * 4 + 1, none⟩ = some (.int .i64 tk) ∧ w.cell? ⟨b, off + j * 4 + 2, none⟩ = some (.int .i64 tl) ∧ w.cell? ⟨b, off + j * 4 + 3, none⟩ = some (.int .u64 tu) ∧
      (Lit.int .i64 tw).wf = true ∧ (Lit.int .i64 tk).wf = true ∧ (Lit.int .i64 tl).wf = true ∧ (Lit.int .u64 tu).wf = true := by
  obtain ⟨ys, hl, hc, x0, y0, rfl, ⟨tw, rfl, h0⟩, x1, y1, rfl, ⟨tk, rfl, h1⟩, x2, y2, rfl, ⟨tl, rfl, h2⟩, x3, y3, rfl, ⟨tu, rfl, h3⟩, rfl⟩ := h
  exact ⟨tw, tk, tl, tu, hc 0 _ rfl, hc 1 _ rfl, hc 2 _ rfl, hc 3 _ rfl, h0, h1, h2, h3⟩
theorem mayK_two {k : ByteArray} (h : k.size = 2) : mayK k = true := by unfold mayK; simp [h]
theorem pre_all (p : JP) : preJ ⟨#[]⟩ p = true := by
  unfold preJ
  show List.isPrefixOf [] p.k.data.toList = true
  simp
theorem filter_all (l : List JP) : l.filter (preJ ⟨#[]⟩) = l := List.filter_eq_self.2 fun p _ => pre_all p
/-- a journal that is sure, and has been made sure i times -/
structure LastR (w wr : World) (p q i : Nat) (pv lv sv : Value) (S : List ByteArray) (a b last : ByteArray) (s : DS) : Prop where
  jx : JX wr w.heap.size p q pv lv sv S a b last s []
  n : s.n = 100
  told : s.told = i
  top : s.top = i
  size : sizeJ (nowJ s []) ≤ 71 * i
  some_ : 0 < i → nowJ s [] ≠ []
  below : Below w.heap.size w wr
set_option maxHeartbeats 6400000 in
set_option maxRecDepth 100000 in
theorem journallast_law (a0 : Option Addr) (len cap : Nat) (times : Int) (w : World) (f0 : Fits w (.slice actShJ) [.slice a0 len cap]) (ht : (Lit.int .i64 times).wf = true) :
    Calls Tryz.prog 4 #[.slice a0 len cap, .int .i64 times] w fun e w' => e = .returned (.bool true) ∧ Below w.heap.size w w' := by
  obtain ⟨hlc, hcm, hel⟩ := f0.slice
  unfold maxLen at hcm
  have HEL := Lib.hid hel
  have cn := dnew 100 w (by omega) (by omega)
  have hm3 := mask3 times
  obtain ⟨tt, htt⟩ : ∃ tt : Nat, times % 4 = (tt : Int) := ⟨(times % 4).toNat, by omega⟩
  have htt4 : tt < 4 := by omega
  rw [htt] at hm3
  clear f0 hel ht htt
  go_enter Tryz.func4, Tryz.ntmps4
  go_wp2_with fail
  refine Calls.mono cn ?_
  rintro e w1 ⟨q, sv, rfl, hd, hb1⟩
  have HB1 := Lib.hid hb1
  have co := jopen (dr_fresh hd (by omega) (by omega))
  clear cn hd hb1
  go_wp2_with fail
  refine Calls.mono co ?_
  rintro e w2 ⟨p, pv, rfl, hx2, -, hb2⟩
  have HS := Lib.hid (show LastR w w2 p q 0 pv (.slice none 0 0) sv (freshS 100) (zeroL 64) (zeroL 64) ⟨#[]⟩ ⟨100, [], 0, 0, 0⟩ from ⟨hx2, rfl, rfl, rfl, Nat.zero_le _, fun h => absurd h (Nat.lt_irrefl 0), HB1.out.trans (hb2.mono HB1.out.size)⟩)
  clear co hx2 hb2
  go_wp2_with fail
  go_loopw [9, 10] (fun mv iv wr => ∃ (i : Nat) (pv lv sv : Value) (S : List ByteArray) (a b last : ByteArray) (s : DS), i ≤ len ∧ i ≤ 40 ∧ mv = .int .u64 i ∧ iv = .int .i64 i ∧ Hid (LastR w wr p q i pv lv sv S a b last s)) (fun _ iv _ => 40 - (intOf iv).toNat)
  case atStart => exact ⟨0, _, _, _, _, _, _, _, _, by omega, by omega, rfl, rfl, HS⟩
  case round =>
    obtain ⟨i, pv, lv, sv, S, a, b, last, s, hi1, hi2, rfl, rfl, HR⟩ := hrel
    clear HS
    obtain ⟨cb, hcb⟩ : ∃ cb, decide (i < len ∧ i < 40) = cb := ⟨_, rfl⟩
    go_upto_region 5 with fail
    go_cut [33] from 26 to 34 (fun cv wx => cv = .bool cb ∧ wr = wx)
    case first =>
      by_cases hin : i < len ∧ i < 40
      · have e1 : cb = true := hcb.symm.trans (decide_eq_true hin)
        have k1 : (i : Int) < (len : Int) := by omega
        have k2 : (i : Int) < 40 := by omega
        go_wp2_with fail
        go_meet
        exact ⟨by rw [e1], rfl⟩
      · have e1 : cb = false := hcb.symm.trans (decide_eq_false hin)
        by_cases hc1 : i < len
        · have k1 : (i : Int) < (len : Int) := by omega
          have k2 : ¬ (i : Int) < 40 := by omega
          go_wp2_with fail
          go_meet
          exact ⟨by rw [e1], rfl⟩
        · have k1 : ¬ (i : Int) < (len : Int) := by omega
          go_wp2_with fail
          go_meet
          exact ⟨by rw [e1], rfl⟩
    case rest =>
    obtain ⟨rfl, rfl⟩ := hcut
    by_cases hin : i < len ∧ i < 40
    · obtain rfl : cb = true := hcb.symm.trans (decide_eq_true hin)
      obtain ⟨hil, hi40⟩ := hin
      clear hcb
      obtain ⟨bb, off, rfl, hbl, hel⟩ := HEL.out.resolve_left (by omega)
      obtain ⟨tw, tk, tl, tu, c0, c1, c2, c3, w0, w1', w2', w3'⟩ := actJ_cells (hel i hil)
      have hbw := HR.out.below
      rw [← hbw.cell (p := ⟨bb, off + i * 4 + 1, none⟩) hbl] at c1
      rw [← hbw.cell (p := ⟨bb, off + i * 4 + 2, none⟩) hbl] at c2
      have hsz := hbw.size
      have hili : (i : Int) < (len : Int) := by omega
      have hi4i : (i : Int) < 40 := by omega
      obtain ⟨M, hM⟩ : ∃ M, wr.heap.size = M := ⟨_, rfl⟩
      have hbM : bb < M := by omega
      have HM := Lib.hid hM
      have cK := fun w => lkey tk w w1'
      have cV := fun w => lvalue tk tl w
      clear hel c0 c3 w0 w1' w2' w3' hbw hM hsz
      have hM2 : w.heap.size ≤ M := by rw [← HM.out]; exact HR.out.below.size
      have cP : ∀ (K V : ByteArray) (w' : World), Below M wr w' → K.size = 2 → 1 ≤ V.size → V.size ≤ 64 → Calls Tryz.prog 19 #[.pointer (some ⟨p, 0, none⟩), .string K, .string V] w' fun e w'' => e = .returned (.int .i64 0) ∧ ∃ pv' lv', JX w'' w.heap.size p q pv' lv' sv S a b last s [⟨K, V, false⟩] ∧ Below w.heap.size w' w'' := by
        intro K V w' hb hK hV1 hV2
        have hjx := HR.out.jx.below (by rw [HM.out]; exact hb)
        have c := jput_some hjx K V (mayK_two hK) (by omega) (by simp [lenJ])
        refine c.mono ?_
        rintro e w'' ⟨r, rfl, h1, -⟩
        have hsrt := hjx.srt
        have hre := recS_exact ⟨K, V⟩ (by show 1 ≤ K.size; omega) (by show K.size ≤ 255; omega) hV1 (by show V.size ≤ 255; omega)
        have hre' : (recS ⟨K, V⟩).size = 5 + K.size + V.size := hre
        have hle : sizeJ (setK (nowJ s []) K V) ≤ sizeJ (nowJ s []) + (recS ⟨K, V⟩).size := by
          rcases set_sizes hsrt K V with ⟨_, e2⟩ | ⟨x, _, _, e2, _⟩ <;> omega
        have hsz := HR.out.size
        obtain ⟨rfl, pv', lv', hx, hk⟩ := h1 (by
          have hn : manyN s.n = 49 := by rw [HR.out.n]; rfl
          rw [hn]
          omega)
        exact ⟨rfl, pv', lv', hx, hk.below⟩
      have SG : ∀ {w' : World}, Below M wr w' → ∀ o, w'.cell? ⟨bb, o, none⟩ = wr.cell? ⟨bb, o, none⟩ := fun h o => h.cell (p := ⟨bb, o, none⟩) hbM
      have hG0 : Below M wr wr.drew := (Below.refl _ _).drew
      have HG0 := Lib.hid (And.intro hM2 HM.out)
      go_upto_region 7 with fail
      go_cut [55] from 36 to 56 (fun tv wx => tv = .bool false ∧ ∃ K V pv' lv', K.size = 2 ∧ 1 ≤ V.size ∧ V.size ≤ 64 ∧ JX wx w.heap.size p q pv' lv' sv S a b last s [⟨K, V, false⟩] ∧ Below w.heap.size wr wx)
      case first =>
        go_region_held3 (fun w' => ∀ o, w'.cell? ⟨bb, o, none⟩ = wr.cell? ⟨bb, o, none⟩) (first | exact hSP | exact SG hG2 | exact SG hG1 | exact SG hG0) (first | (go_at_call 9; (with_reducible refine Calls.mono (cK _) ?_); rintro e wk ⟨K, rfl, hK, hbk⟩; have hG1 := below_trans hG0 hbk (Nat.le_of_eq HG0.out.2.symm)) | (go_at_call 17; (with_reducible refine Calls.mono (cV _) ?_); rintro e wv ⟨V, rfl, hV1, hV2, hbv⟩; have hG2 := below_trans hG1 hbv (Nat.le_trans (Nat.le_of_eq HG0.out.2.symm) hG1.size)) | (go_at_call 19; (with_reducible refine Calls.mono (cP K V _ hG2 hK hV1 hV2) ?_); rintro e wp ⟨rfl, pv', lv', hxp, hbp⟩; have hSP := (fun (o : Nat) => (hbp.cell (p := ⟨bb, o, none⟩) hbl).trans (SG hG2 o))))
        all_goals
          rename_i hfin
          clear hfin
          go_wp2_with fail
          go_meet
          exact ⟨rfl, K, V, pv', lv', hK, hV1, hV2, hxp, (hG2.mono HG0.out.1).trans hbp⟩
      case rest =>
        obtain ⟨rfl, K, V, pv', lv', hK, hV1, hV2, hxp, hbp⟩ := hcut
        have hre : (recS ⟨K, V⟩).size = 5 + K.size + V.size := recS_exact ⟨K, V⟩ (by show 1 ≤ K.size; omega) (by show K.size ≤ 255; omega) hV1 (by show V.size ≤ 255; omega)
        have hl1 : lenJ [(⟨K, V, false⟩ : JO)] = 5 + K.size + V.size := by rw [lenJ_one, ← hre, recS_len]
        have hnow : nowJ s [⟨K, V, false⟩] = setK (nowJ s []) K V := nowJ_set s [] K V
        have hle : sizeJ (setK (nowJ s []) K V) ≤ sizeJ (nowJ s []) + (recS ⟨K, V⟩).size := by
          rcases set_sizes HR.out.jx.srt K V with ⟨_, e2⟩ | ⟨x, _, _, e2, _⟩ <;> omega
        have cl := jlater hxp
        rw [decide_eq_true (show 0 < lenJ [(⟨K, V, false⟩ : JO)] by omega)] at cl
        have cs := jsync hxp (by omega) (by rw [HR.out.top]; omega)
        have HP := Lib.hid (And.intro hK (And.intro hV2 (And.intro hre (And.intro hl1 (And.intro hnow (And.intro hle hbp))))))
        clear hK hV1 hV2 hxp hbp hre hl1 hnow hle cP SG hG0 cK cV c1 c2
        go_wp2_with fail
        refine Calls.mono cl ?_
        rintro e w3 ⟨rfl, rfl⟩
        go_wp2_with fail
        refine Calls.mono cs ?_
        rintro e w4 ⟨rfl, sv4, S4, a4, b4, last4, s4, lv4, hx4, hn4, hnow4, ht4, htold, hk4⟩
        obtain ⟨hK, hV2, hre, hl1, hnow, hle, hbp⟩ := HP.out
        obtain ⟨e1, e2⟩ := htold (by omega) (by rw [HR.out.told, HR.out.top])
        have HR4 := Lib.hid (show LastR w w4 p q (i + 1) pv' lv4 sv4 S4 a4 b4 last4 s4 from ⟨hx4, hn4.trans HR.out.n, by rw [e1, HR.out.told], by rw [e2, e1, HR.out.told], by
          rw [hnow4, hnow]
          have := HR.out.size
          omega, fun _ => by
          rw [hnow4, hnow]
          unfold setK
          simp, (HR.out.below.trans hbp).trans hk4.below⟩)
        clear hK hV2 hre hl1 hnow hle hbp e1 e2 hx4 hn4 hnow4 ht4 htold hk4 cs cl HP
        go_wp2_with fail
        go_roundw
        case rel => exact ⟨i + 1, _, _, _, _, _, _, _, _, by omega, by omega, by go_num, by go_num, HR4⟩
        case measure => simp [intOf]; omega
    · obtain rfl : cb = false := hcb.symm.trans (decide_eq_false hin)
      clear HB1 hcb hin
      have ca := jall HR.out.jx ⟨#[]⟩
      rw [filter_all] at ca
      go_wp2_with fail
      refine Calls.mono ca ?_
      rintro e w3 ⟨mv, rfl, hown, hb3⟩
      have hjx3 := HR.out.jx.below hb3
      have HJ3 := Lib.hid hjx3
      have HM3 := Lib.hid (SR.owns hown)
      have HB3 := Lib.hid (HR.out.below.trans (hb3.mono HR.out.below.size))
      have hwm : ∃ aa cc, mv = .slice aa (nowJ s []).length cc := by
        obtain ⟨aa, cc, e, -, -⟩ := (SR.owns hown).form
        exact ⟨aa, cc, e⟩
      obtain ⟨ma, mc, rfl⟩ := hwm
      have hat : decide (0 < lenJ s.rs) = decide (0 < i) := by
        by_cases h0 : 0 < i
        · rw [decide_eq_true h0, decide_eq_true]
          rcases Nat.eq_zero_or_pos (lenJ s.rs) with h | h
          · exfalso
            refine HR.out.some_ h0 ?_
            rw [nowJ_nil, lenJ_zero h]
            rfl
          · exact h
        · rw [decide_eq_false h0, decide_eq_false]
          have := (HR.out.jx.dx.zero (by rw [HR.out.told]; omega)).1
          rw [this]
          simp [lenJ]
      have hsm : smallP (nowJ s []) := fun x hx => ⟨by have := HR.out.jx.oks x hx; omega, by have := HR.out.jx.oks x hx; omega⟩
      have HSM := Lib.hid hsm
      obtain ⟨us, hus⟩ : ∃ us, lenJ s.rs = us := ⟨_, rfl⟩
      rw [hus] at hat
      have HUS := Lib.hid hus
      have HAT := Lib.hid hat
      clear ca hb3 hown hjx3 hat hsm hus
      go_wp2_with fail
      go_loopw [12] (fun tv wx => ∃ t : Nat, t ≤ tt + 1 ∧ tv = .int .i64 t ∧ Hid (Below w3.heap.size w3 wx)) (fun tv _ => tt + 1 - (intOf tv).toNat)
      case atStart => exact ⟨0, by omega, rfl, Lib.hid (Below.refl _ _)⟩
      case round =>
        obtain ⟨t, ht1, rfl, HW⟩ := hrel
        by_cases hlt : t ≤ tt
        · have hlti : (t : Int) ≤ (tt : Int) := by omega
          have co := jopen (HJ3.out.below HW.out).dr
          have hsrw := HM3.out.below HW.out
          go_wp2_with fail
          refine Calls.mono co ?_
          rintro e w5 ⟨pk, pvk, rfl, hxk, -, hb5⟩
          have cu := jused hxk
          rw [HUS.out, HR.out.told] at cu
          have HX5 := Lib.hid hxk
          have HS5 := Lib.hid (hsrw.below hb5)
          have HB5 := Lib.hid (HW.out.trans (hb5.mono HW.out.size))
          clear co hxk hsrw hb5
          go_wp2_with fail
          refine Calls.mono cu ?_
          rintro e w6 ⟨rfl, hb6⟩
          have hx6 := HX5.out.below hb6
          have HX6 := Lib.hid hx6
          have HS6 := Lib.hid (HS5.out.below hb6)
          have HB6 := Lib.hid (HB5.out.trans (hb6.mono HB5.out.size))
          have ca := jall hx6 ⟨#[]⟩
          rw [filter_all] at ca
          clear cu hb6 hx6
          go_wp2_with fail
          refine Calls.mono ca ?_
          rintro e w7 ⟨mk, rfl, hown7, hb7⟩
          have hx7 := HX6.out.below hb7
          have cs := lsame (SR.owns hown7) (HS6.out.below hb7) HSM.out HSM.out
          rw [decide_eq_true rfl] at cs
          have HX7 := Lib.hid hx7
          have HB7 := Lib.hid (HB6.out.trans (hb7.mono HB6.out.size))
          obtain ⟨ka, kc, rfl, -, -⟩ := (SR.owns hown7).form
          clear ca hown7 hb7 hx7
          go_wp2_with fail
          refine Calls.mono cs ?_
          rintro e w8 ⟨rfl, hb8⟩
          have HB8 := Lib.hid (HB7.out.trans (hb8.mono HB7.out.size))
          have cl := jlater (HX7.out.below hb8)
          rw [show decide (0 < lenJ []) = false from rfl] at cl
          clear cs hb8
          have hnn : ((i : Int) != (i : Int)) = false := by simp
          go_wp2_with fail
          refine Calls.mono cl ?_
          rintro e w9 ⟨rfl, rfl⟩
          clear cl
          by_cases h0 : 0 < i
          · have h0i : (0 : Int) < (i : Int) := by omega
            have hu0 : 0 < us := by have := HAT.out; rw [decide_eq_true h0] at this; exact of_decide_eq_true this
            have hu0i : (0 : Int) < (us : Int) := by omega
            go_wp2_with fail
            go_roundw
            case rel => exact ⟨t + 1, by omega, by go_num, HB8⟩
            case measure => simp [intOf]; omega
          · have h0i : ¬ (0 : Int) < (i : Int) := by omega
            have hu0 : ¬ 0 < us := by have := HAT.out; rw [decide_eq_false h0] at this; exact of_decide_eq_false this
            have hu0i : ¬ (0 : Int) < (us : Int) := by omega
            go_wp2_with fail
            go_roundw
            case rel => exact ⟨t + 1, by omega, by go_num, HB8⟩
            case measure => simp [intOf]; omega
        · have hlti : ¬ (t : Int) ≤ (tt : Int) := by omega
          go_wp2_with fail
          refine Calls.mono (awake07 _) ?_
          rintro e w5 ⟨rfl, hb5⟩
          have HB5 := Lib.hid (HW.out.trans (hb5.mono HW.out.size))
          clear hb5
          go_wp2_with fail
          go_returns
          exact ⟨rfl, HB3.out.trans (HB5.out.mono HB3.out.size)⟩
end Go.Proofs.YtgnnijpfkgmomaaGreatDoor
