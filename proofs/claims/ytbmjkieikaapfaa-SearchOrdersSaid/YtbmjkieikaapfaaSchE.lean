/-
  The uses of layer 40's law: near what may be.
-/
import Derived.Test.YtbmjkieikaapfaaSchD
import Derived.Test.YtbmjkieikaapfaaElts
namespace Go.Proofs.Ytbmjkieikaapfaa
open Go.RowKit Go.WideMaps
set_option linter.unusedVariables false
set_option linter.unusedSimpArgs false

abbrev shU : Sh := .two .bool (.two .str (.two (.int .i64) (.two (.int .i64) .unit)))
def RawU (u : US) : Prop := u.v.size ≤ maxLen ∧ (Lit.int .i64 u.f).wf = true ∧ (Lit.int .i64 u.t).wf = true
def NU (u : US) : Prop := 0 ≤ u.f ∧ u.f ≤ 15 ∧ u.f < u.t ∧ u.t ≤ 1073741824 ∧ u.v.size ≤ 1
theorem uses_of {w : World} {a : Option Addr} {len cap : Nat} (h : Fits w (.slice shU) [.slice a len cap]) : ∃ l : List US, l.length = len ∧ Elts w uC 4 (.slice a len cap) l ∧ ∀ u ∈ l, RawU u := by
  refine fits_rows (s := shU) (c := uC) (good := RawU) ?_ h
  rintro ys ⟨x1, y1, rfl, ⟨b, rfl⟩, x2, y2, rfl, ⟨s, rfl, hs⟩, x3, y3, rfl, ⟨f, rfl, hf⟩, x4, y4, rfl, ⟨t, rfl, ht⟩, h5⟩
  cases h5
  exact ⟨⟨b, s, f, t⟩, rfl, hs, hf, ht⟩
theorem uCs_one (l : List US) : ∀ y ∈ uCs l, y.oneCell' = true := by
  intro y hy
  simp only [uCs, List.mem_flatMap] at hy
  obtain ⟨u, _, hu⟩ := hy
  simp only [uC, List.mem_cons, List.not_mem_nil, or_false] at hu
  rcases hu with rfl | rfl | rfl | rfl <;> rfl
theorem uCs_append (a b : List US) : uCs a ++ uCs b = uCs (a ++ b) := by simp [uCs]
theorem use_zero : ∃ i0 : TypeInfo, Try.prog.info? 49 = some i0 ∧ i0.zero = some (.agg #[.bool false, .string ⟨#[]⟩, .int .i64 0, .int .i64 0]) ∧ i0.size = 4 ∧ i0.bytes = 40 := by
  have h : (Try.prog.info? 49).map (fun i => (i.zero, i.size, i.bytes)) = some (some (.agg #[.bool false, .string ⟨#[]⟩, .int .i64 0, .int .i64 0]), 4, 40) := by kernel_rfl
  simp only [Option.map_eq_some_iff, Prod.mk.injEq] at h
  exact h
theorem conv1 {P : Program} {src dst e : TypeId} (hs : P.underlying src = some (.slice e)) (he : P.underlying e = some (.int .u8)) (hd : P.underlying dst = some .string) (w : World) (b0 : UInt8) (x0 : Int) (h0 : x0 = b0.toNat) :
    (convert src dst (.slice (some ⟨w.heap.size, 0, none⟩) 1 1)).run P (w.alloc (.cells #[.int .u8 x0] e)) = .ok (.string ⟨#[b0]⟩) (w.alloc (.cells #[.int .u8 x0] e)) := by
  subst h0
  refine run_convert_bytes_back _ src dst e ⟨w.heap.size, 0, none⟩ 1 [b0] hs he hd fun j hj => ?_
  have e1 : (⟨w.heap.size, 0, none⟩ : Addr).add j = ⟨w.heap.size, j, none⟩ := by unfold Addr.add; split <;> simp_all
  rw [e1, World.cell?_alloc_at _ _ _ _ rfl]
  have : j = 0 := by simp at hj; omega
  subst this
  rfl
theorem byte_is (x : Int) (h : 0 ≤ x ∧ x ≤ 255) : ∃ b : UInt8, x = b.toNat := ⟨UInt8.ofNat x.toNat, by simp; omega⟩
/-- the use that is made ready, at block X; of what there was ahead of it nothing has turned -/
structure XAt (X : Nat) (w wx : World) (A : Array Value) : Prop where
  at_ : wx.heap[X]? = some (.cells A 49)
  below : Below X w wx
theorem xat_new {w : World} {A : Array Value} : XAt w.heap.size w (w.alloc (.cells A 49)).drew A := ⟨heap_alloc_self w _, below_drew' ((Below.refl _ _).alloc (Nat.le_refl _) _)⟩
theorem XAt.cell {X : Nat} {w wx : World} {A : Array Value} (h : XAt X w wx A) (j : Nat) {v : Value} (hv : A[j]? = some v) : wx.cell? ⟨X, j, none⟩ = some v := cellU h.at_ j hv
theorem XAt.froz {X : Nat} {w wx : World} {A : Array Value} (h : XAt X w wx A) (j : Nat) : wx.frozen? ⟨X, j, none⟩ = false := by simp [World.frozen?, h.at_]
theorem XAt.old {X : Nat} {w wx : World} {A : Array Value} (h : XAt X w wx A) {b o : Nat} (hb : b < X) {v : Value} (hc : w.cell? ⟨b, o, none⟩ = some v) : wx.cell? ⟨b, o, none⟩ = some v := (h.below.cell (p := ⟨b, o, none⟩) hb).trans hc
theorem XAt.set {X : Nat} {w wx : World} {A : Array Value} (h : XAt X w wx A) (j : Nat) (v : Value) : XAt X w (wx.setCell ⟨X, j, none⟩ v) (A.setIfInBounds j v) := ⟨heap_set_self h.at_ j v, h.below.setCell (Nat.le_refl _) _⟩
theorem XAt.drew {X : Nat} {w wx : World} {A : Array Value} (h : XAt X w wx A) : XAt X w wx.drew A := ⟨h.at_, below_drew' h.below⟩
theorem XAt.go {X : Nat} {w wx wy : World} {A : Array Value} (h : XAt X w wx A) (hb : Below wx.heap.size wx wy) : XAt X w wy A := ⟨below_at hb (lt_heap h.at_) h.at_, h.below.trans (hb.mono (Nat.le_of_lt (lt_heap h.at_)))⟩
/-- what is gathered -/
def Gu (w wr : World) (v5 : Value) (i : Nat) : Prop := ∃ out : List US, out.length = i ∧ wr.ownsRow w.heap.size 49 4 v5 i (uCs out) ∧ (∀ u ∈ out, NU u) ∧ Below w.heap.size w wr
set_option maxHeartbeats 3200000 in
set_option maxRecDepth 100000 in
theorem near40 (once : Bool) (l : List US) (a : Option Addr) (len cap : Nat) (w : World) (h : Elts w uC 4 (.slice a len cap) l) (hl : l.length = len) (hr : ∀ u ∈ l, RawU u) (hm : len ≤ maxLen) :
    Calls Try.prog 16 #[.slice a len cap, .bool once] w fun e w' => ∃ (b : Option Addr) (k c : Nat) (out : List US), e = .returned (.slice b k c) ∧ SR w' (.slice b k c) 4 k (uCs out) ∧ k ≤ 7 ∧ (∀ u ∈ out, NU u) ∧ Below w.heap.size w w' := by
  obtain ⟨i0, hi0, hz0, hz1, hz2⟩ := use_zero
  have HE := Lib.hid h
  have HR := Lib.hid hr
  have HL := Lib.hid hl
  have hb1 := (Below.refl w.heap.size w).alloc (Nat.le_refl _) (.cells #[] 49)
  have H0 := Lib.hid (show Gu w (w.alloc (.cells #[] 49)) (.slice (some ⟨w.heap.size, 0, none⟩) 0 0) 0 from ⟨[], rfl, World.ownsRow_lit (base := w.heap.size) w #[] 0 (Nat.le_refl _) (by decide) (by rfl), by simp, hb1⟩)
  unfold maxLen at hm
  clear h hr hl hb1
  go_enter Try.func16, Try.ntmps16
  go_upto_region 2 with fail
  generalize w.alloc (.cells #[] 49) = w1 at *
  go_wp2_with fail
  go_loopw [5, 6] (fun sv iv wr => ∃ (i : Nat) (b : Option Addr) (c : Nat), i ≤ len ∧ i ≤ 7 ∧ sv = .slice b i c ∧ iv = .int .i64 i ∧ Hid (Gu w wr (.slice b i c) i)) (fun _ iv _ => len - (intOf iv).toNat)
  case atStart => exact ⟨0, _, _, Nat.zero_le _, by omega, rfl, rfl, H0⟩
  case round =>
    obtain ⟨i, b, c, hi, hi7, rfl, rfl, HG⟩ := hrel
    clear H0
    by_cases hin : i < len ∧ i < 7
    · obtain ⟨hin, hin7⟩ := hin
      have hBw : Below w.heap.size w wr := HG.out.choose_spec.2.2.2
      obtain ⟨u, hu⟩ : ∃ u, l[i]? = some u := ⟨_, List.getElem?_eq_getElem (by have := HL.out; omega)⟩
      obtain ⟨-, bb, off, rfl, hlt, hc⟩ := (HE.out.below hBw).at_ hu
      obtain ⟨hr1, hr2, hr3⟩ := HR.out u (List.mem_of_getElem? hu)
      obtain ⟨uw, uv, uf, ut⟩ := u
      simp only at hr1 hr2 hr3
      have e0 := hc 0 (.bool uw) rfl
      have e1 := hc 1 (.string uv) rfl
      have e2 := hc 2 (.int .i64 uf) rfl
      have e3 := hc 3 (.int .i64 ut) rfl
      simp only [Nat.add_zero] at e0
      clear hc
      have h15 := mask15 uf
      have h7 := mask7 ut
      obtain ⟨F, hF⟩ : ∃ F, uf % 16 = F := ⟨_, rfl⟩
      obtain ⟨G, hG⟩ : ∃ G, ut % 8 = G := ⟨_, rfl⟩
      rw [hF] at h15
      rw [hG] at h7
      have hF0 : 0 ≤ F ∧ F ≤ 15 := by omega
      have hG0 : 0 ≤ G ∧ G ≤ 7 := by omega
      clear hF hG
      have HB := Lib.hid hBw
      clear hBw hu
      have hFa : 0 ≤ F := hF0.1
      have hFb : F ≤ 15 := hF0.2
      have hGa : 0 ≤ G := hG0.1
      have hGb : G ≤ 7 := hG0.2
      clear hF0 hG0
      go_upto_region 5 with fail
      go_region
      have hx := xat_new (w := wr) (A := #[.bool uw, .string ⟨#[]⟩, .int .i64 F, .int .i64 0])
      obtain ⟨w5, hw5⟩ : ∃ W, (wr.alloc (.cells #[.bool uw, .string ⟨#[]⟩, .int .i64 F, .int .i64 0] 49)).drew = W := ⟨_, rfl⟩
      rw [hw5] at hx ⊢
      obtain ⟨X, hX⟩ : ∃ X, wr.heap.size = X := ⟨_, rfl⟩
      rw [hX] at hx hlt ⊢
      have HXs := Lib.hid hX
      have c2 := hx.cell 2 (v := .int .i64 F) rfl
      have c3 := hx.cell 3 (v := .int .i64 0) rfl
      have f3 := hx.froz 3
      have d3 := hx.old hlt e3
      have d1 := hx.old hlt e1
      have HE0 := Lib.hid (And.intro e0 (And.intro e1 (And.intro e2 e3)))
      have HX5 := Lib.hid hx
      clear e0 e1 e2 e3 hx hw5 hX
      go_upto_region 6 with fail
      go_region
      have hx6 := (HX5.out.set 3 (.int .i64 (F + 1 + G))).drew
      obtain ⟨w6, hw6⟩ : ∃ W, (w5.setCell ⟨X, 3, none⟩ (.int .i64 (F + 1 + G))).drew = W := ⟨_, rfl⟩
      rw [hw6] at hx6 ⊢
      have HX6 := Lib.hid (show XAt X wr w6 #[.bool uw, .string ⟨#[]⟩, .int .i64 F, .int .i64 (F + 1 + G)] from hx6)
      clear c2 c3 f3 d3 d1 hx6 hw6 HX5
      have d3 := HX6.out.old hlt HE0.out.2.2.2
      have c3 := HX6.out.cell 3 (v := .int .i64 (F + 1 + G)) rfl
      have f3 := HX6.out.froz 3
      go_upto_if 49 with fail
      go_cut [] (fun wx => ∃ (T : Int), Hid (XAt X wr wx #[.bool uw, .string ⟨#[]⟩, .int .i64 F, .int .i64 T] ∧ F < T ∧ T ≤ 1073741824))
      case first =>
        have HA := Lib.hid (show XAt X wr w6 #[.bool uw, .string ⟨#[]⟩, .int .i64 F, .int .i64 (F + 1 + G)] ∧ F < F + 1 + G ∧ F + 1 + G ≤ 1073741824 from ⟨HX6.out, by omega, by omega⟩)
        have HB3 := Lib.hid (show XAt X wr (w6.setCell ⟨X, 3, none⟩ (.int .i64 1073741824)) #[.bool uw, .string ⟨#[]⟩, .int .i64 F, .int .i64 1073741824] ∧ F < 1073741824 ∧ (1073741824 : Int) ≤ 1073741824 from ⟨HX6.out.set 3 _, by omega, by omega⟩)
        go_wp2_with fail
        all_goals
          go_meet
          first | exact ⟨_, HA⟩ | exact ⟨_, HB3⟩
      case rest =>
        obtain ⟨T, HT⟩ := hcut
        obtain ⟨w7, hw7⟩ : ∃ W, W = wc := ⟨_, rfl⟩
        subst hw7
        have d1 := HT.out.1.old hlt HE0.out.2.1
        have d3' := HT.out.1.cell 1 (v := .string ⟨#[]⟩) rfl
        have f1 := HT.out.1.froz 1
        have hm3 := mask3 (uv.size : Int)
        obtain ⟨M, hM⟩ : ∃ M, (uv.size : Int) % 4 = M := ⟨_, rfl⟩
        have hMa : 0 ≤ M := by omega
        have hMb : M ≤ 3 := by omega
        rw [hM] at hm3
        obtain ⟨b1, hb1⟩ := byte_is (97 + M) (by omega)
        have hcv := conv1 (P := Try.prog) (src := 54) (dst := 9) (e := 5) Try.underlying54 Try.underlying5 Try.underlying9 w7 b1 (97 + M) hb1
        have hxb := HT.out.1.go ((Below.refl w7.heap.size w7).alloc (Nat.le_refl _) (.cells #[.int .u8 (97 + M)] 5))
        have g1 := hxb.cell 1 (v := .string ⟨#[]⟩) rfl
        have h1 := hxb.froz 1
        have HX8 := Lib.hid (hxb.set 1 (.string ⟨#[b1]⟩))
        unfold maxLen at hr1
        clear hM hb1 hxb
        go_upto_region 10 with fail
        obtain ⟨w8, hw8⟩ : ∃ W, (w7.alloc (.cells #[.int .u8 (97 + M)] 5)).setCell ⟨X, 1, none⟩ (.string ⟨#[b1]⟩) = W := ⟨_, rfl⟩
        rw [hw8] at HX8 ⊢
        have HX9 := Lib.hid (show XAt X wr w8 #[.bool uw, .string ⟨#[b1]⟩, .int .i64 F, .int .i64 T] ∧ F < T ∧ T ≤ 1073741824 from ⟨HX8.out, HT.out.2⟩)
        clear d1 d3' f1 hcv g1 h1 HX8 hw8 HT hm3
        have k0 := HX9.out.1.cell 0 (v := .bool uw) rfl
        go_cut [67] (fun s wx => (∃ p : Bool, s = .bool p) ∧ wx = w8)
        case first =>
          cases uw <;> cases once
          all_goals
            go_wp2_with fail
            go_meet
            exact ⟨⟨_, rfl⟩, rfl⟩
        case rest =>
          obtain ⟨⟨p, rfl⟩, rfl⟩ := hcut
          obtain ⟨w8, hw8⟩ : ∃ W, W = wc := ⟨_, rfl⟩
          subst hw8
          clear k0
          go_upto_if 67 with fail
          go_cut [] (fun wx => ∃ V : ByteArray, Hid (XAt X wr wx #[.bool uw, .string V, .int .i64 F, .int .i64 T] ∧ V.size ≤ 1))
          case first =>
            cases p
            · have HA := Lib.hid (show XAt X wr w8 #[.bool uw, .string ⟨#[b1]⟩, .int .i64 F, .int .i64 T] ∧ (⟨#[b1]⟩ : ByteArray).size ≤ 1 from ⟨HX9.out.1, Nat.le_refl 1⟩)
              go_wp2_with fail
              go_meet
              exact ⟨_, HA⟩
            · obtain ⟨b2, hb2⟩ := byte_is (97 + (i : Int)) (by omega)
              have hcv := conv1 (P := Try.prog) (src := 54) (dst := 9) (e := 5) Try.underlying54 Try.underlying5 Try.underlying9 w8 b2 (97 + (i : Int)) hb2
              have hxb := HX9.out.1.go ((Below.refl w8.heap.size w8).alloc (Nat.le_refl _) (.cells #[.int .u8 (97 + (i : Int))] 5))
              have g1 := hxb.cell 1 (v := .string ⟨#[b1]⟩) rfl
              have h1 := hxb.froz 1
              have HA := Lib.hid (show XAt X wr ((w8.alloc (.cells #[.int .u8 (97 + (i : Int))] 5)).setCell ⟨X, 1, none⟩ (.string ⟨#[b2]⟩)) #[.bool uw, .string ⟨#[b2]⟩, .int .i64 F, .int .i64 T] ∧ (⟨#[b2]⟩ : ByteArray).size ≤ 1 from ⟨hxb.set 1 _, Nat.le_refl 1⟩)
              clear hb2 hxb
              go_wp2_with fail
              go_meet
              exact ⟨_, HA⟩
          case rest =>
            obtain ⟨V, HV⟩ := hcut
            obtain ⟨w9, hw9⟩ : ∃ W, W = wc := ⟨_, rfl⟩
            subst hw9
            have k0 := HV.out.1.cell 0 (v := .bool uw) rfl
            go_upto_region 12 with fail
            go_cut [79] (fun s wx => (∃ p : Bool, s = .bool p) ∧ wx = w9)
            case first =>
              cases uw <;> cases once
              all_goals
                go_wp2_with fail
                go_meet
                exact ⟨⟨_, rfl⟩, rfl⟩
            case rest =>
              obtain ⟨⟨p, rfl⟩, rfl⟩ := hcut
              obtain ⟨w9, hw9⟩ : ∃ W, W = wc := ⟨_, rfl⟩
              subst hw9
              clear k0
              go_upto_if 79 with fail
              go_cut [] (fun wx => ∃ V : ByteArray, Hid (XAt X wr wx #[.bool uw, .string V, .int .i64 F, .int .i64 T] ∧ V.size ≤ 1))
              case first =>
                cases p
                · go_wp2_with fail
                  go_meet
                  exact ⟨_, HV⟩
                · obtain ⟨R, hR⟩ : ∃ R, Int.tmod (uv.size : Int) 7 = R := ⟨_, rfl⟩
                  have hRa : 0 ≤ R := by rw [← hR]; exact Int.tmod_nonneg _ (by omega)
                  have hRb : R ≤ 6 := by
                    have := Int.emod_lt_of_pos (uv.size : Int) (show (0 : Int) < 7 by decide)
                    rw [← hR, Int.tmod_eq_emod_of_nonneg (by omega)]
                    omega
                  have d1 := HV.out.1.old hlt HE0.out.2.1
                  obtain ⟨b2, hb2⟩ := byte_is (97 + R) (by omega)
                  have hcv := conv1 (P := Try.prog) (src := 54) (dst := 9) (e := 5) Try.underlying54 Try.underlying5 Try.underlying9 w9 b2 (97 + R) hb2
                  have hxb := HV.out.1.go ((Below.refl w9.heap.size w9).alloc (Nat.le_refl _) (.cells #[.int .u8 (97 + R)] 5))
                  have g1 := hxb.cell 1 (v := .string V) rfl
                  have h1 := hxb.froz 1
                  have HA := Lib.hid (show XAt X wr ((w9.alloc (.cells #[.int .u8 (97 + R)] 5)).setCell ⟨X, 1, none⟩ (.string ⟨#[b2]⟩)) #[.bool uw, .string ⟨#[b2]⟩, .int .i64 F, .int .i64 T] ∧ (⟨#[b2]⟩ : ByteArray).size ≤ 1 from ⟨hxb.set 1 _, Nat.le_refl 1⟩)
                  clear hb2 hxb
                  go_wp2_with fail
                  go_meet
                  exact ⟨_, HA⟩
              case rest =>
                obtain ⟨V2, HV2⟩ := hcut
                obtain ⟨wx, hwx⟩ : ∃ W, W = wc := ⟨_, rfl⟩
                subst hwx
                have hfin : ∃ out : List US, out.length = i ∧ wx.ownsRow w.heap.size 49 4 (.slice b i c) i (uCs out) ∧ (∀ u ∈ out, NU u) ∧ Below w.heap.size w wx ∧ w.heap.size ≤ wx.heap.size := by
                  obtain ⟨out, q1, q2, q3, q4⟩ := HG.out
                  have hbx := HV2.out.1.below
                  rw [← HXs.out] at hbx
                  exact ⟨out, q1, owns_below q2 hbx, q3, q4.trans (hbx.mono q4.size), Nat.le_trans q4.size hbx.size⟩
                obtain ⟨out, q1, q2, q3, q4, q5⟩ := hfin
                have HO := Lib.hid q2
                have HQ := Lib.hid (And.intro q1 (And.intro q3 (And.intro q4 q5)))
                have k0 := HV2.out.1.cell 0 (v := .bool uw) rfl
                have k1 := HV2.out.1.cell 1 (v := .string V2) rfl
                have k2 := HV2.out.1.cell 2 (v := .int .i64 F) rfl
                have k3 := HV2.out.1.cell 3 (v := .int .i64 T) rfl
                clear q1 q2 q3 q4 q5
                go_wp2_with (at_builtin; refine wp_app Try.underlying43 hi0 hz0 hz1 hz2 rfl (by decide) rfl (.tmp 92) (.tmp 94) rfl w.heap.size _ _ _ rfl (HO.out.alloc _) _ 1 (uCs [⟨uw, V2, F, T⟩]) rfl (SR.lit _ _ #[.bool uw, .string V2, .int .i64 F, .int .i64 T] 4 1 (by decide) rfl) ?c1 ?c2 ?c3 ?c4 ?_)
                case c1 => exact uCs_one _
                case c2 => unfold maxLen; omega
                case c3 => omega
                case c4 => have := HQ.out.2.2.2; simp; omega
                intro v' w' hown hgr
                obtain ⟨a2, c2, rfl, -, -⟩ := (SR.owns hown).form
                have HGN := Lib.hid (show Gu w w' (.slice a2 (i + 1) c2) (i + 1) from ⟨out ++ [⟨uw, V2, F, T⟩], by simp [HQ.out.1], by rw [← uCs_append]; exact hown, fun x hx => (List.mem_append.1 hx).elim (HQ.out.2.1 x) (fun q => by rw [List.mem_singleton.1 q]; exact ⟨hFa, hFb, HX9.out.2.1, HX9.out.2.2, HV2.out.2⟩), below_app (HQ.out.2.2.1.alloc HQ.out.2.2.2 _) hgr (HO.out.alloc _) (Nat.le_refl _) (by have := HQ.out.2.2.2; simp; omega)⟩)
                clear hown hgr k0 k1 k2 k3
                go_wp2_with fail
                go_roundw
                case rel => exact ⟨i + 1, _, _, by omega, by omega, rfl, by go_num, HGN⟩
                case measure => simp [intOf]; omega
    · have h2 : i = len ∨ (i < len ∧ i = 7) := by omega
      have hsr : ∃ out : List US, SR wr (.slice b i c) 4 i (uCs out) ∧ i ≤ 7 ∧ (∀ u ∈ out, NU u) ∧ Below w.heap.size w wr := by
        obtain ⟨out, h1, h2, h3, h4⟩ := HG.out
        exact ⟨out, SR.owns h2, hi7, h3, h4⟩
      have HF := Lib.hid hsr
      clear hsr hin
      rcases h2 with rfl | ⟨h2, rfl⟩
      all_goals
        go_wp2_with fail
        go_ret
        obtain ⟨out, h1, h2, h3, h4⟩ := HF.out
        exact ⟨_, _, _, out, rfl, h1, h2, h3, h4⟩
end Go.Proofs.Ytbmjkieikaapfaa
