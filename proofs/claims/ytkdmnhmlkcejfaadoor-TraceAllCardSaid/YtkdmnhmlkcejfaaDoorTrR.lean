/-
  Acts as bytes, one behind the other, come back, up to the first that is none.
-/
import Derived.Test.YtkdmnhmlkcejfaaDoorTrQ
import Derived.Test.YtkdmnhmlkcejfaaDoorTrM
namespace Go.Proofs.YtkdmnhmlkcejfaaDoor
open Go.RowKit
set_option linter.unusedVariables false
set_option linter.unusedSimpArgs false

def GoodA (t : TA) : Prop := MayT t ∧ t.D.length ≤ 128 ∧ t.S.length ≤ 30
def encs (ls : List AN) : List (List UInt8) := ls.map fun a => encT a.t
theorem encs_len {ls : List AN} (h : ∀ a ∈ ls, GoodA a.t) : ∀ t ∈ encs ls, t.length ≤ 1100 := by
  intro t ht
  simp only [encs, List.mem_map] at ht
  obtain ⟨a, ha, rfl⟩ := ht
  obtain ⟨h1, h2, h3⟩ := h a ha
  have := enc_len h1
  omega
theorem encs_ok {ls : List AN} (h : ∀ a ∈ ls, GoodA a.t) : (∀ t ∈ encs ls, actE t = 0) ∧ (encs ls).map outT = ls.map (·.t) := by
  constructor
  · intro t ht
    simp only [encs, List.mem_map] at ht
    obtain ⟨a, ha, rfl⟩ := ht
    exact (act_back (h a ha).1).1
  · simp only [encs, List.map_map]
    refine List.map_congr_left fun a ha => ?_
    obtain ⟨h1, h2⟩ := act_back (h a ha).1
    show outT (encT a.t) = a.t
    unfold outT
    rw [if_pos h1, h2]
theorem catT_laid {ls : List AN} (h : ∀ a ∈ ls, GoodA a.t) : catT ls = laidF (encs ls) := by
  induction ls with
  | nil => rfl
  | cons x r ih =>
    have e : putT x.t = frameB (encT x.t) := by unfold putT; rw [if_pos (h x (by simp)).1]
    have := ih fun a ha => h a (by simp [ha])
    simp only [catT, encs, laidF, List.flatMap_cons, List.map_cons, e] at *
    rw [this]
/-- the tail's frame falls -/
theorem tail_falls (T : List UInt8) (h : T.length ≤ 20) : (⟨[1, 127] ++ T, 0⟩ : RS).frmS.e ≠ 0 := by
  have h1 := num_put 127 (by decide) T 16384 (by decide)
  have hp : putN 127 = [1, 127] := by decide +kernel
  rw [hp] at h1
  have hm : (min (16384 : Int) 65536).toNat = 16384 := rfl
  have h2 : (⟨[1, 127] ++ T, 0⟩ : RS).textS 16384 = ⟨[], 2⟩ := by
    unfold RS.textS
    rw [hm, h1.1, h1.2]
    unfold RS.takeS
    rw [if_neg (by simp), if_pos (by right; simp; omega)]
    rfl
  have h3 : (⟨[1, 127] ++ T, 0⟩ : RS).frm2 = ⟨[], 2⟩ := by unfold RS.frm2; rw [h2]; rfl
  unfold RS.frmS
  rw [h3, if_neg (by simp)]
  decide
theorem st_laid {ls : List AN} (h : ∀ a ∈ ls, GoodA a.t) (T : List UInt8) (hT : T.length ≤ 20) : StF (laidF (encs ls) ++ ([1, 127] ++ T)) (encs ls).length := by
  right
  show (itF (laidF (encs ls) ++ ([1, 127] ++ T)) (encs ls).length).frmS.e ≠ 0
  rw [it_laid (encs_len h) _ (Nat.le_refl _), List.drop_length]
  exact tail_falls T hT
theorem fits_acts {w wr : World} {a : Option Addr} {len cap : Nat} (h : Fits w (.slice actSh) [.slice a len cap]) (hb : Below w.heap.size w wr) (i : Nat) (hi : i < len) : ∃ (b off : Nat) (t : TA) (aM aC : Option Addr) (pM pC : Nat), a = some ⟨b, off, none⟩ ∧ WfT t ∧ ActAt t w (.slice aM t.M.length pM) (.slice aC t.C.length pC) ∧ (t.C.length ≤ pC ∧ pC ≤ maxLen) ∧
    (wr.cell? ⟨b, off + i * 12, none⟩ = some (.int .i64 t.W) ∧ wr.cell? ⟨b, off + i * 12 + 1, none⟩ = some (.int .i64 t.P) ∧ wr.cell? ⟨b, off + i * 12 + 2, none⟩ = some (.int .i64 t.A) ∧ wr.cell? ⟨b, off + i * 12 + 3, none⟩ = some (.int .i64 t.B) ∧ wr.cell? ⟨b, off + i * 12 + 4, none⟩ = some (.int .i64 t.aW) ∧ wr.cell? ⟨b, off + i * 12 + 5, none⟩ = some (.int .i64 t.aA) ∧ wr.cell? ⟨b, off + i * 12 + 6, none⟩ = some (.int .i64 t.aL) ∧ wr.cell? ⟨b, off + i * 12 + 7, none⟩ = some (.string ⟨t.D.toArray⟩) ∧ wr.cell? ⟨b, off + i * 12 + 8, none⟩ = some (.bool t.u) ∧ wr.cell? ⟨b, off + i * 12 + 9, none⟩ = some (.slice aM t.M.length pM) ∧ wr.cell? ⟨b, off + i * 12 + 10, none⟩ = some (.slice aC t.C.length pC) ∧ wr.cell? ⟨b, off + i * 12 + 11, none⟩ = some (.string ⟨t.S.toArray⟩)) := by
  obtain ⟨-, -, h3⟩ := h.slice
  rcases h3 with h3 | ⟨b, off, rfl, hbl, hc⟩
  · omega
  · obtain ⟨ys, hl, hcell, hf⟩ := hc i hi
    obtain ⟨t, aM, aC, pM, pC, rfl, hw, hat, hp1, hp2⟩ := fits_act1 hf
    have g : ∀ k u, (actC t (.slice aM t.M.length pM) (.slice aC t.C.length pC)).toList[k]? = some u → wr.cell? ⟨b, off + i * 12 + k, none⟩ = some u := fun k u hu => (hb.cell (p := ⟨b, off + i * 12 + k, none⟩) hbl).trans (hcell k u hu)
    exact ⟨b, off, t, aM, aC, pM, pC, rfl, hw, hat, ⟨hp1, hp2⟩, g 0 _ rfl, g 1 _ rfl, g 2 _ rfl, g 3 _ rfl, g 4 _ rfl, g 5 _ rfl, g 6 _ rfl, g 7 _ rfl, g 8 _ rfl, g 9 _ rfl, g 10 _ rfl, g 11 _ rfl⟩
theorem cutB (s : ByteArray) (m : Int) (hm : 0 ≤ m) : ∃ (t : Int) (T : List UInt8), min (s.size : Int) m = t ∧ 0 ≤ t ∧ t ≤ (s.size : Int) ∧ s.extract 0 t.toNat = ⟨T.toArray⟩ ∧ (T.length : Int) ≤ m := by
  obtain ⟨l, rfl, hl⟩ := str_list s
  obtain ⟨t, T, h1, h2, h3, h4, h5⟩ := cutT l m hm
  exact ⟨t, T, by rw [← hl]; exact h1, h2, by rw [← hl]; exact h3, h4, h5⟩
theorem laid_more (ls : List AN) (a : AN) : laidF (encs (ls ++ [a])) = laidF (encs ls) ++ frameB (encT a.t) := by simp [laidF, encs]
set_option maxHeartbeats 12800000 in
set_option maxRecDepth 100000 in
theorem traceall_law (a0 : Option Addr) (len0 cap0 : Nat) (s1 : ByteArray) (w : World) (f0 : Fits w (.slice actSh) [.slice a0 len0 cap0]) (hs1 : s1.size ≤ maxLen) (hT : Tab w) :
    Calls Tryd.prog 4 #[.slice a0 len0 cap0, .string s1] w fun e w' => e = .returned (.bool true) ∧ Below w.heap.size w w' := by
  obtain ⟨i0, hi, hz0, hz1, hz2⟩ := info_parts info_act
  have hl0 : len0 ≤ 9223372036854775807 := by obtain ⟨h1, h2, -⟩ := f0.slice; unfold maxLen at h2; omega
  unfold maxLen at hs1
  have F0 := Lib.hid f0
  have HT := Lib.hid hT
  have hw0 : (w.alloc (.cells #[] 54)).ownsRow w.heap.size 54 12 (.slice (some ⟨w.heap.size, 0, none⟩) 0 0) 0 (aCells []) := World.ownsRow_lit (base := w.heap.size) w #[] 0 (Nat.le_refl _) (by decide) rfl
  have hb0 := (Below.refl w.heap.size w).alloc (Nat.le_refl _) (.cells #[] 54)
  have H0 := Lib.hid (show ARw (w.alloc (.cells #[] 54)) w.heap.size (.slice (some ⟨w.heap.size, 0, none⟩) 0 0) [] ∧ Below w.heap.size w (w.alloc (.cells #[] 54)) from ⟨⟨hw0, by simp⟩, hb0⟩)
  clear f0 hT hw0 hb0
  go_enter Tryd.func4, Tryd.ntmps4
  go_upto_block 0 with fail
  go_cut [5, 6] from 14 to 37 (fun wv sv wx => ∃ (n : Nat) (ls : List AN) (S : List UInt8), sv = .string ⟨S.toArray⟩ ∧ ls.length = n ∧ n ≤ 10 ∧ S.length ≤ 12000 ∧ Hid (S = laidF (encs ls)) ∧ Hid (∀ a ∈ ls, GoodA a.t) ∧ Hid (ARw wx w.heap.size wv ls ∧ Below w.heap.size w wx))
  case first =>
    go_wp2_with fail
    go_loopw [5, 6, 7] (fun wv sv iv wr => ∃ (n : Nat) (ls : List AN) (S : List UInt8), iv = .int .i64 n ∧ sv = .string ⟨S.toArray⟩ ∧ n ≤ len0 ∧ ls.length = n ∧ n ≤ 10 ∧ S.length ≤ 1113 * n ∧ Hid (S = laidF (encs ls)) ∧ Hid (∀ a ∈ ls, GoodA a.t) ∧ Hid (ARw wr w.heap.size wv ls ∧ Below w.heap.size w wr)) (fun _ _ iv _ => 10 - (intOf iv).toNat)
    case atStart => exact ⟨0, [], [], rfl, rfl, Nat.zero_le _, rfl, by decide, by decide, Lib.hid rfl, Lib.hid (by simp), H0⟩
    case round =>
      obtain ⟨n, ls, S, rfl, rfl, hnl, htn, hn8, hSl, HSE, HS, HR⟩ := hrel
      by_cases hc : n < len0 ∧ n < 10
      · obtain ⟨hc1, hc2⟩ := hc
        obtain ⟨b, off, t, aM, aC, pM, pC, rfl, hwf, hat, hpc, q0, q1, q2, q3, q4, q5, q6, q7, q8, q9, q10, q11⟩ := fits_acts F0.out HR.out.2 n hc1
        have cn := lnearM t (n : Int) aM aC pM pC wr (hat.below HR.out.2) hwf (wf_of (by omega)) hpc
        unfold actC at cn
        clear hwf hat hpc
        go_wp2_with fail
        refine Calls.mono cn ?_
        rintro e w2 ⟨⟨x, vm, vc, rfl, hat, hnr, hrw⟩, hb2⟩
        have hrw2 := hrw ⟨by omega, by omega⟩
        have hgood : GoodA x := hnr.2 ⟨by omega, by omega⟩
        clear q0 q1 q2 q3 q4 q5 q6 q7 q8 q9 q10 q11 cn hrw
        obtain ⟨aM, pM, aC, pC, e1, e2⟩ := hat.form
        subst e1 e2
        have HA2 := Lib.hid (show AN.own ⟨x, aM, pM, aC, pC⟩ w.heap.size w2 from RW.raise hrw2 HR.out.2.size)
        have HR2 := Lib.hid (And.intro (HR.out.1.below hb2) (HR.out.2.trans (hb2.mono HR.out.2.size)))
        have HGD := Lib.hid (And.intro hgood hnr.1)
        clear hat hrw2 hgood hnr hb2
        have hqx := heap_alloc_self w2 (.cells (actC x (.slice aM x.M.length pM) (.slice aC x.C.length pC)) 54)
        have hbx := (Below.refl w2.heap.size w2).alloc (Nat.le_refl _) (.cells (actC x (.slice aM x.M.length pM) (.slice aC x.C.length pC)) 54)
        have HR3 := Lib.hid (And.intro (HR2.out.1.below hbx) (And.intro (RW.below HA2.out hbx) (And.intro (HR2.out.2.trans (hbx.mono HR2.out.2.size)) (show ∀ k, Value.ownBlock u5 = some k → k < w2.heap.size from fun k hk => (HR2.out.1.row.lt k hk).2))))
        unfold actC at hbx hqx HR3
        go_upto_region 6 with fail
        obtain ⟨X, hX⟩ : ∃ X, w2.heap.size = X := ⟨_, rfl⟩
        obtain ⟨w3, hw3⟩ : ∃ w3, w2.alloc (.cells #[.int .i64 x.W, .int .i64 x.P, .int .i64 x.A, .int .i64 x.B, .int .i64 x.aW, .int .i64 x.aA, .int .i64 x.aL, .string ⟨x.D.toArray⟩, .bool x.u, .slice aM x.M.length pM, .slice aC x.C.length pC, .string ⟨x.S.toArray⟩] 54) = w3 := ⟨_, rfl⟩
        rw [hw3] at hqx HR3 ⊢
        rw [hX] at hqx HR3 ⊢
        have HQX := Lib.hid hqx
        obtain ⟨d0, d1, d2, d3, d4, d5, d6, d7, d8, d9, d10, d11⟩ := actIn (t := x) (vm := .slice aM x.M.length pM) (vc := .slice aC x.C.length pC) hqx
        clear hw3 hbx hX HR2 HA2 hqx
        go_wp2_with (at_builtin; refine wp_app Tryd.underlying50 hi hz0 hz1 hz2 rfl (by decide) rfl (.tmp 30) (.tmp 32) rfl w.heap.size _ _ _ rfl (HR3.out.1.row.alloc _) _ 1 (aCells [⟨x, aM, pM, aC, pC⟩]) rfl (SR.lit _ _ #[.int .i64 x.W, .int .i64 x.P, .int .i64 x.A, .int .i64 x.B, .int .i64 x.aW, .int .i64 x.aA, .int .i64 x.aL, .string ⟨x.D.toArray⟩, .bool x.u, .slice aM x.M.length pM, .slice aC x.C.length pC, .string ⟨x.S.toArray⟩] 12 1 (by decide) rfl) ?c1 ?c2 ?c3 ?c4 ?_)
        case c1 => exact aCells_oneC _
        case c2 => unfold maxLen; omega
        case c3 => omega
        case c4 => have := HR3.out.2.2.1.size; simp; omega
        intro v' w5 hown hgr
        have HAR := Lib.hid (HR3.out.1.app (a := ⟨x, aM, pM, aC, pC⟩) HR3.out.2.1 (by rw [htn]; exact hown) hgr)
        have hb5 : Below w.heap.size w w5 := below_app (HR3.out.2.2.1.alloc HR3.out.2.2.1.size _) hgr (HR3.out.1.row.alloc _) (Nat.le_refl _) (by simp; have := HR3.out.2.2.1.size; omega)
        have hx5 : w5.heap[X]? = some _ := ((hgr.block X (by simp; have := lt_heap HQX.out; omega) (fun e => by have := HR3.out.2.2.2 X e.symm; omega)).trans (Below.heap_alloc _ _ _ (lt_heap HQX.out))).trans HQX.out
        have HB5 := Lib.hid hb5
        have cl := lput x (.slice aM x.M.length pM) (.slice aC x.C.length pC) w5 (AN.own.at_ (HAR.out.lists ⟨x, aM, pM, aC, pC⟩ (by simp)) (by have h := HGD.out.1.1; have a := h.2.1.1; have b := h.2.2.1.1; exact ⟨by show x.M.length ≤ 1000; omega, by show x.C.length ≤ 1000; omega⟩)) HGD.out.2
        have hel := enc_len HGD.out.1.1
        have hfl := frame_len (t := encT x) (by have := HGD.out.1.2.1; have := HGD.out.1.2.2; omega)
        have hlm := laid_more ls ⟨x, aM, pM, aC, pC⟩
        obtain ⟨F, hF⟩ : ∃ F, frameB (encT x) = F := ⟨_, rfl⟩
        rw [hF] at cl hfl
        have HLM := Lib.hid (show laidF (encs (ls ++ [⟨x, aM, pM, aC, pC⟩])) = S ++ F from by rw [hlm, HSE.out]; show _ ++ frameB (encT x) = _; rw [hF])
        obtain ⟨d0, d1, d2, d3, d4, d5, d6, d7, d8, d9, d10, d11⟩ := actIn (t := x) (vm := .slice aM x.M.length pM) (vc := .slice aC x.C.length pC) hx5
        have hsum : S.length + F.length ≤ 9223372036854775807 := by omega
        have hap := str_append S F
        unfold actC at cl
        clear hown hgr hb5 hx5 hel hF hlm HR3
        go_wp2_with fail
        refine Calls.mono cl ?_
        rintro e w6 ⟨rfl, hb6⟩
        have HF6 := Lib.hid (And.intro (HAR.out.below hb6) (HB5.out.trans (hb6.mono HB5.out.size)))
        clear cl hb6 d0 d1 d2 d3 d4 d5 d6 d7 d8 d9 d10 d11 HAR
        go_wp2_with fail
        go_roundw
        case rel =>
          refine ⟨n + 1, ls ++ [⟨x, aM, pM, aC, pC⟩], S ++ F, by go_num, ?_, by omega, by simp [htn], by omega, by rw [List.length_append]; omega, Lib.hid HLM.out.symm, Lib.hid (fun a ha => ?_), HF6⟩
          · first | rw [hap] | rfl
          · rcases List.mem_append.1 ha with q | q
            · exact HS.out a q
            · rw [List.mem_singleton.1 q]; exact HGD.out.1
        case measure => simp [intOf]; omega
      · have hfin : n = len0 ∨ (n = 10 ∧ 10 < len0) := by omega
        have HF := Lib.hid HR.out
        clear hc
        rcases hfin with rfl | ⟨rfl, h8⟩
        all_goals
          go_wp2_with fail
          go_meet
          exact ⟨_, ls, S, rfl, htn, by omega, by omega, HSE, HS, HF⟩
  case rest =>
    obtain ⟨n, ls, S, rfl, htn, hn8, hS6, HSE, HS, HR⟩ := hcut
    obtain ⟨W0, hW0⟩ : ∃ W0, W0 = wc := ⟨_, rfl⟩
    subst hW0
    obtain ⟨av, cv, hvv, hlc⟩ := HR.out.1.form
    subst hvv
    have hput : ∀ a ∈ ls, putT a.t = frameB (encT a.t) := fun a ha => by unfold putT; rw [if_pos (HS.out a ha).1]
    have ca := tall ls (.slice av ls.length cv) w.heap.size W0 HR.out.1 (fun a ha => by
      rw [hput a ha]
      have := enc_len (HS.out a ha).1
      have := (HS.out a ha).2
      exact (frame_len (by omega)).2) (fun a ha => by
      obtain ⟨h1, h2, h3⟩ := HS.out a ha
      have := h1.2.1.1
      have := h1.2.2.1.1
      exact ⟨by omega, by omega, by omega⟩) (by omega) (HT.out.below HR.out.2)
    rw [catT_laid HS.out, ← HSE.out] at ca
    rw [htn] at ca hlc
    obtain ⟨tq, TL, ht1, ht2, ht3, ht4, ht5⟩ := cutB s1 20 (by decide)
    have hel := encs_ok HS.out
    have hl2 := encs_len HS.out
    have cac := fun w' (hT' : Tab w') => tacts (encs ls) ([1, 127] ++ TL) w' hl2 hel.1 (st_laid HS.out TL (by omega)) (by simp [encs]; omega) (by rw [← HSE.out]; simp only [List.length_append]; simp; omega) hT'
    rw [← HSE.out, hel.2] at cac
    have HEL := Lib.hid (And.intro hel hl2)
    clear hput hel hl2
    have hap : (⟨#[1, 127]⟩ : ByteArray) ++ ⟨TL.toArray⟩ = ⟨([1, 127] ++ TL).toArray⟩ := str_append [1, 127] TL
    obtain ⟨TT, hTT⟩ : ∃ TT, [1, 127] ++ TL = TT := ⟨_, rfl⟩
    have hTl : TT.length ≤ 22 := by rw [← hTT]; simp; omega
    rw [hTT] at hap cac
    have hap2 := str_append S TT
    have hz1' : (2 : Nat) + TL.length ≤ 9223372036854775807 := by omega
    have hz2' : S.length + TT.length ≤ 9223372036854775807 := by omega
    have HRR := Lib.hid HR.out
    have HH := Lib.hid (And.intro hTT HEL.out)
    clear HEL hTT H0
    go_wp2_with fail
    refine Calls.mono ca ?_
    rintro e w1 ⟨rfl, hb1⟩
    have HR1 := Lib.hid (And.intro (HRR.out.1.below hb1) (HRR.out.2.trans (hb1.mono HRR.out.2.size)))
    have cc := cac w1 (HT.out.below HR1.out.2)
    clear ca hb1 HRR cac HR
    go_wp2_with fail
    refine Calls.mono cc ?_
    rintro e w2 ⟨⟨gv, l2, rfl, hrow, hmap⟩, hb2⟩
    have hl2n : l2.length = n := by have := congrArg List.length hmap; simpa [htn] using this
    obtain ⟨gA, gC, hgv, hlc2⟩ := hrow.form
    subst hgv
    rw [hl2n] at hrow hlc2 ⊢
    have HR2 := Lib.hid (And.intro (HR1.out.1.below hb2) (And.intro hrow (HR1.out.2.trans (hb2.mono HR1.out.2.size))))
    have HMP := Lib.hid (And.intro hmap hl2n)
    have aw := awake51 w2 (HT.out.below HR2.out.2.2)
    clear cc hrow hmap hb2 HR1 hl2n
    go_wp2_with fail
    refine Calls.mono aw ?_
    rintro e w3 ⟨rfl, hb3⟩
    have HR3 := Lib.hid (And.intro (HR2.out.1.below hb3) (And.intro (HR2.out.2.1.below hb3) (HR2.out.2.2.trans (hb3.mono HR2.out.2.2.size))))
    clear aw hb3 HR2
    have hnn : ((n : Int) != (n : Int)) = false := by simp
    go_upto_block 2 with fail
    go_wp2_with fail
    go_loopw [12] (fun iv wr => ∃ j : Nat, j ≤ n ∧ iv = .int .i64 j ∧ Hid (Below w3.heap.size w3 wr)) (fun iv _ => n - (intOf iv).toNat)
    case atStart => exact ⟨0, Nat.zero_le _, rfl, Lib.hid (Below.refl _ _)⟩
    case round =>
      obtain ⟨j, hj, rfl, HJ⟩ := hrel
      by_cases hjn : j < n
      · obtain ⟨a, ha⟩ : ∃ a, ls[j]? = some a := ⟨_, List.getElem?_eq_getElem (by omega)⟩
        obtain ⟨a', ha'⟩ : ∃ a, l2[j]? = some a := ⟨_, List.getElem?_eq_getElem (by have := HMP.out.2; omega)⟩
        have het : a'.t = a.t := by
          have h := congrArg (fun l : List TA => l[j]?) HMP.out.1
          simp only [List.getElem?_map, ha, ha', Option.map_some] at h
          exact Option.some.inj h
        have hG := HS.out a (List.mem_of_getElem? ha)
        have h1 := HR3.out.1.below HJ.out
        have h2 := HR3.out.2.1.below HJ.out
        obtain ⟨b1, o1, c1, e1, l1, p0, p1, p2, p3, p4, p5, p6, p7, p8, p9, p10, p11⟩ := h1.twelve ha
        obtain ⟨b2, o2, c2, e2, l2', q0, q1, q2, q3, q4, q5, q6, q7, q8, q9, q10, q11⟩ := h2.twelve ha'
        injection e1 with e1 e1b e1c
        injection e2 with e2 e2b e2c
        subst e1 e2
        clear e1b e1c e2b e2c
        have hb13 : a.t.M.length ≤ 1000 ∧ a.t.C.length ≤ 1000 := by have := hG.1.2.1.1; have := hG.1.2.2.1.1; exact ⟨by omega, by omega⟩
        have hat1 := AN.own.at_ (h1.lists a (List.mem_of_getElem? ha)) hb13
        have hat2 := AN.own.at_ (h2.lists a' (List.mem_of_getElem? ha')) (by rw [het]; exact hb13)
        obtain ⟨t', x1, y1, x2, y2⟩ := a'
        obtain ⟨t, z1, u1, z2, v2⟩ := a
        simp only at het
        subst het
        obtain ⟨N, hN⟩ : ∃ N, wr.heap.size = N := ⟨_, rfl⟩
        have hNW : N ≤ wr.heap.size := Nat.le_of_eq hN.symm
        rw [hN] at l1 l2'
        have cs := fun w' (h' : N ≤ w'.heap.size ∧ Below N wr w') => (lsame t' _ _ _ _ w' (hat2.below (by rw [hN]; exact h'.2)) (hat1.below (by rw [hN]; exact h'.2)) hG.1).mono fun e w'' h => (And.intro h.1 (stays_of h'.1 h.2) : _ ∧ Stays N w' w'')
        unfold actC AN.vm AN.vc at cs
        simp only at cs
        unfold AN.vm at p9 q9
        unfold AN.vc at p10 q10
        simp only at p0 p1 p2 p3 p4 p5 p6 p7 p8 p9 p10 p11 q0 q1 q2 q3 q4 q5 q6 q7 q8 q9 q10 q11
        have HNN := Lib.hid hN
        clear hG h1 h2 hb13 hat1 hat2 ha ha' hN
        go_upto_region 17 with fail
        go_region_held3 (fun w' => N ≤ w'.heap.size ∧ Below N wr w' ∧ ∀ b o, b < N → w'.cell? ⟨b, o, none⟩ = wr.cell? ⟨b, o, none⟩) (first | with_reducible exact keeps_next (by assumption) (by assumption) | exact keepsT_start hNW) (first | (go_at_call 22; (with_reducible refine Calls.mono (cs _ ?hk) ?_); (case hk => exact keepsT_two (by assumption)); rintro ev wz ⟨rfl, hzz⟩))
        rename_i hfin
        have HF := Lib.hid (show Below w3.heap.size w3 wz from HJ.out.trans (hfin.2.1.mono (by have := HJ.out.size; have := HNN.out; omega)))
        clear hfin p0 p1 p2 p3 p4 p5 p6 p7 p8 p9 p10 p11 q0 q1 q2 q3 q4 q5 q6 q7 q8 q9 q10 q11 cs
        go_wp2_with fail
        go_roundw
        case rel => exact ⟨j + 1, by omega, by go_num, HF⟩
        case measure => simp [intOf]; omega
      · obtain rfl : n = j := by omega
        go_wp2_with fail
        go_ret
        exact ⟨rfl, HR3.out.2.2.trans (HJ.out.mono HR3.out.2.2.size)⟩
end Go.Proofs.YtkdmnhmlkcejfaaDoor
