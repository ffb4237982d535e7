/-
  Several texts, laid together.
-/
import Derived.Test.YtfgmeeponipjeaaRows
import Derived.WalkKit
import Derived.Lib.BitFns
import Derived.Test.YtfgmeeponipjeaaMg21
/-
  Masks of signed numbers: remainders.
-/



namespace Go.Proofs.Ytfgmeeponipjeaa
open Go.RowKit
theorem mask_mod (x : Int) (k : Nat) (m : Int) (hm : (BitVec.ofInt 64 m).toNat = 2 ^ k - 1) (hk : k ≤ 62) : bits .and .i64 x m = x % ((2 ^ k : Nat) : Int) := by
  have h : (BitVec.ofInt 64 x &&& BitVec.ofInt 64 m).toNat = (x % ((2 ^ 64 : Nat) : Int)).toNat % 2 ^ k := by
    rw [BitVec.toNat_and, BitVec.toNat_ofInt, hm, Nat.and_two_pow_sub_one_eq_mod]
  have hp : 2 ^ k ≤ 2 ^ 62 := Nat.pow_le_pow_right (by omega) hk
  have hd : 2 ^ k ∣ 2 ^ 64 := Nat.pow_dvd_pow 2 (by omega)
  have h0 : 0 < 2 ^ k := Nat.two_pow_pos k
  have hx : (((x % ((2 ^ 64 : Nat) : Int)).toNat % 2 ^ k : Nat) : Int) = x % ((2 ^ k : Nat) : Int) := by
    rw [Int.natCast_emod, Int.toNat_of_nonneg (Int.emod_nonneg _ (by decide)), Int.emod_emod_of_dvd _ (Int.natCast_dvd_natCast.2 hd)]
  have hl := Nat.mod_lt ((x % ((2 ^ 64 : Nat) : Int)).toNat) h0
  show IntKind.i64.wrap ((BitVec.ofInt 64 x &&& BitVec.ofInt 64 m).toNat : Nat) = _
  rw [h, IntKind.wrap_i64, ← hx]
  omega
theorem mask3 (x : Int) : bits .and .i64 x 3 = x % 4 := mask_mod x 2 3 (by decide) (by decide)
theorem mask7 (x : Int) : bits .and .i64 x 7 = x % 8 := mask_mod x 3 7 (by decide) (by decide)
theorem mask15 (x : Int) : bits .and .i64 x 15 = x % 16 := mask_mod x 4 15 (by decide) (by decide)
theorem mask31 (x : Int) : bits .and .i64 x 31 = x % 32 := mask_mod x 5 31 (by decide) (by decide)
theorem mask20 (x : Int) : bits .and .i64 x 1048575 = x % 1048576 := mask_mod x 20 1048575 (by decide) (by decide)
end Go.Proofs.Ytfgmeeponipjeaa
/-
  MirrorNewest's walk.
-/



namespace Go.Proofs.Ytfgmeeponipjeaa
open Go.RowKit
set_option linter.unusedVariables false
set_option linter.unusedSimpArgs false

theorem zero4 (b : Nat) (hb : b < 4) : Try.zeroCells100[b]? = some (.int .u64 0) := by
  match b, hb with
  | 0, _ => rfl
  | 1, _ => rfl
  | 2, _ => rfl
  | 3, _ => rfl
theorem mirA_new (p C : Nat) : ∀ A, A = ((Try.zeroCells100.setIfInBounds 64 (.pointer (some ⟨p, 0, none⟩))).setIfInBounds 65 (.pointer (some ⟨C, 0, none⟩))) → (∀ b, b < 4 → A[b]? = some (.int .u64 0)) ∧ A[64]? = some (.pointer (some ⟨p, 0, none⟩)) ∧ A[65]? = some (.pointer (some ⟨C, 0, none⟩)) := by
  rintro A rfl
  have h := zero4
  obtain ⟨h1, -⟩ := zero58
  generalize Try.zeroCells100 = Z at *
  refine ⟨fun b hb => ?_, by simp [Array.getElem?_setIfInBounds, h1], by simp [Array.getElem?_setIfInBounds, h1]⟩
  rw [Array.getElem?_setIfInBounds_ne (by omega), Array.getElem?_setIfInBounds_ne (by omega)]
  exact h b hb
set_option maxHeartbeats 800000 in
theorem mnewW (w : World) : Calls Try.prog 18 #[.int .i64 4] w fun e w' => ∃ m, e = .returned (.pointer (some ⟨m, 0, none⟩)) ∧ Mst w' w.heap.size m 0 (fun _ => 0) ∧ Below w.heap.size w w' := by
  have c0 := fun w => snew w
  have c1 := fun w => cnewA4 w
  have hS := set_new w
  have hb0 := (Below.refl w.heap.size w).alloc (Nat.le_refl _) (.cells #[.slice none 0 0] 122)
  have hz : (w.alloc (.cells #[.slice none 0 0] 122)).heap.size = w.heap.size + 1 := by simp
  go_enter Try.func18, Try.ntmps18
  go_wp2_with fail
  refine Calls.mono (c0 _) ?_
  rintro e w1 ⟨rfl, rfl⟩
  generalize w.alloc (.cells #[.slice none 0 0] 122) = w1 at *
  go_wp2_with fail
  refine Calls.mono (c1 _) ?_
  rintro e w2 ⟨C, a, mp, rfl, hC, hb2⟩
  go_wp2_with fail
  go_ret
  obtain ⟨A, hA⟩ : ∃ A, A = ((Try.zeroCells100.setIfInBounds 64 (.pointer (some ⟨w.heap.size, 0, none⟩))).setIfInBounds 65 (.pointer (some ⟨C, 0, none⟩))) := ⟨_, rfl⟩
  obtain ⟨q1, q2, q3⟩ := mirA_new _ _ A hA
  have hb3 : Below w2.heap.size w2 (w2.alloc (.cells A 100)) := (Below.refl _ _).alloc (Nat.le_refl _) _
  have hbf := (hb0.trans (hb2.mono (by omega))).alloc (hb0.trans (hb2.mono (by omega))).size (.cells A 100)
  have hCN : CacheW w2 w.heap.size C a mp 0 (fun _ => .slice none 0 0) (fun _ => []) 0 (.map []) := by
    refine ⟨⟨Nat.le_trans (by omega) hC.arc.low, hC.arc.obj, fun i hi => RowAt.nil _ _, hC.arc.dis⟩, hC.ai, hC.cac, hC.map, Nat.le_trans (by omega) hC.low, hC.num⟩
  rw [← hA]
  refine ⟨w2.heap.size, rfl, ⟨w.heap.size, C, a, mp, _, [], 0, _, _, _, A, ⟨(hS.below hb2).below hb3, heap_alloc_self _ _, by have := hb2.size; omega, q2, q3, hCN.below hb3, by simp⟩, fun b hb => ⟨0, q1 b hb, Int.le_refl _, fun h e => (by simp [getL] at e), fun _ e => (by simp [kc] at e)⟩⟩, hbf⟩
def arrF (F : Nat → Int) : Array Value := #[.int .u64 (F 0), .int .u64 (F 1), .int .u64 (F 2), .int .u64 (F 3)]
theorem arrF_at (F : Nat → Int) (k : Nat) (hk : k < 4) : (arrF F)[k]? = some (.int .u64 (F k)) := by
  match k, hk with
  | 0, _ => rfl
  | 1, _ => rfl
  | 2, _ => rfl
  | 3, _ => rfl
theorem arrF_put (F : Nat → Int) (k : Nat) (hk : k < 4) (x : Int) : (arrF F).setIfInBounds k (.int .u64 (max (F k) x)) = arrF (mxF F k x) := by
  match k, hk with
  | 0, _ => rfl
  | 1, _ => rfl
  | 2, _ => rfl
  | 3, _ => rfl
theorem Mst.mono {w : World} {N m n n' : Nat} {F : Nat → Int} (h : Mst w N m n F) (hn : n ≤ n') : Mst w N m n' F := by
  obtain ⟨p, C, a, mp, v, l, W, V, L, D, A, hM, hI⟩ := h
  exact ⟨p, C, a, mp, v, l, W, V, L, D, A, hM.mono hn, hI⟩
theorem Mst.below {w w' : World} {N m n : Nat} {F : Nat → Int} (h : Mst w N m n F) (hb : Below w.heap.size w w') : Mst w' N m n F ∧ MTurn w w' N := by
  obtain ⟨p, C, a, mp, v, l, W, V, L, D, A, hM, hI⟩ := h
  exact ⟨⟨p, C, a, mp, v, l, W, V, L, D, A, hM.below hb, hI⟩, hM.turnB hb⟩
theorem Mst.le {w : World} {N m n : Nat} {F : Nat → Int} (h : Mst w N m n F) : N ≤ w.heap.size := by
  obtain ⟨p, C, a, mp, v, l, W, V, L, D, A, hM, hI⟩ := h
  exact hM.le
/-- the numbers of the newest writings turn -/
theorem Mst.newest {w : World} {N m n q : Nat} {F G : Nat → Int} {B : Array Value} (h : Mst w N m n F) (hq : w.heap[q]? = some (.cells B 52)) (k : Nat) (v : Value) : Mst (w.setCell ⟨q, k, none⟩ v) N m n F := by
  obtain ⟨p, C, a, mp, v', l, W, V, L, D, A, hM, hI⟩ := h
  have hk : Keep (fun o => match o with | .cells _ t _ => t == 52 | _ => false) w (w.setCell ⟨q, k, none⟩ v) := fun j o hj hp => by
    refine (heap_setCell_far (fun e => ?_) v).trans hj
    subst e
    rw [hq] at hj
    obtain rfl := Option.some.inj hj
    simp at hp
  exact ⟨p, C, a, mp, v', l, W, V, L, D, A, hM.keep hk (fun _ => rfl) (fun _ => rfl) (fun _ => rfl) (fun _ => rfl) (fun _ _ => rfl) (fun _ => rfl) (fun _ => rfl), hI⟩
structure AC where
  w : Int
  b : Int
  v : Int
  d : ByteArray
def acC (x : AC) : List Value := [.int .i64 x.w, .int .i64 x.b, .int .u64 x.v, .string x.d]
def RawA (x : AC) : Prop := (Lit.int .u64 x.v).wf = true
abbrev shA : Sh := .two (.int .i64) (.two (.int .i64) (.two (.two (.int .u64) (.two .str .unit)) .unit))
theorem acts_of {w : World} {a : Option Addr} {len cap : Nat} (h : Fits w (.slice shA) [.slice a len cap]) : ∃ l : List AC, l.length = len ∧ Elts w acC 4 (.slice a len cap) l ∧ ∀ u ∈ l, RawA u := by
  refine fits_rows (s := shA) (c := acC) (good := RawA) ?_ h
  rintro ys ⟨x1, y1, rfl, ⟨wt, rfl, hw⟩, x2, y2, rfl, ⟨bl, rfl, hb⟩, x3, y3, rfl, ⟨x4, y4, rfl, ⟨ve, rfl, hv⟩, x5, y5, rfl, ⟨s, rfl, hs⟩, h6⟩, h5⟩
  cases h5
  cases h6
  exact ⟨⟨wt, bl, ve, s⟩, rfl, hv⟩
/-- how it stands between two acts -/
def LR (w wr : World) (m q i : Nat) : Prop := ∃ F, Mst wr w.heap.size m i F ∧ wr.heap[q]? = some (.cells (arrF F) 52) ∧ w.heap.size ≤ q ∧ Below w.heap.size w wr
end Go.Proofs.Ytfgmeeponipjeaa
/-
  MirrorNewest's walk: the law.
-/

namespace Go.Proofs.Ytfgmeeponipjeaa
open Go.RowKit
set_option linter.unusedVariables false
set_option linter.unusedSimpArgs false

theorem LR.step {w wr w' : World} {m q i j : Nat} {F : Nat → Int} (h : LR w wr m q i) (hm : Mst w' w.heap.size m j F) (hq : w'.heap[q]? = some (.cells (arrF F) 52)) (hb : Below w.heap.size w w') : LR w w' m q j := by
  obtain ⟨_, _, _, h3, _⟩ := h
  exact ⟨F, hm, hq, h3, hb⟩
theorem cellQ {w : World} {q k : Nat} {B : Array Value} {u : Value} (h : w.heap[q]? = some (.cells B 52)) (hv : B[k]? = some u) : w.cell? ⟨q, k, none⟩ = some u := by simp only [World.cell?, h]; simpa using hv
theorem frzQ {w : World} {q : Nat} {B : Array Value} (h : w.heap[q]? = some (.cells B 52)) (k : Nat) : w.frozen? ⟨q, k, none⟩ = false := by simp [World.frozen?, h]
set_option maxHeartbeats 6400000 in
set_option maxRecDepth 100000 in
theorem mirrornewest_law (a : Option Addr) (len cap : Nat) (w : World) (hf : Fits w (.slice shA) [.slice a len cap]) :
    Calls Try.prog 5 #[.slice a len cap] w fun e w' => e = .returned (.bool true) ∧ Below w.heap.size w w' := by
  obtain ⟨l, hl, hE, hR⟩ := acts_of hf
  have hlm : len ≤ maxLen := by
    obtain ⟨a', c', e, h1, h2, -⟩ := hE
    injection e with _ e2 e3
    omega
  unfold maxLen at hlm
  have c0 := fun w => mnewW w
  have ca := fun w => awake24 w
  have HE := Lib.hid hE
  have HR := Lib.hid hR
  have HL := Lib.hid hl
  clear hf hE hR hl
  go_enter Try.func5, Try.ntmps5
  go_wp2_with fail
  refine Calls.mono (c0 _) ?_
  rintro e w1 ⟨m, rfl, hm1, hb1⟩
  have hx := heap_alloc_self w1 (.cells (arrF (fun _ => 0)) 52)
  have hb2 := (Below.refl w1.heap.size w1).alloc (Nat.le_refl _) (.cells (arrF (fun _ => 0)) 52)
  have H0 := Lib.hid (show LR w (w1.alloc (.cells (arrF (fun _ => 0)) 52)) m w1.heap.size 0 from ⟨_, (hm1.below hb2).1, hx, hb1.size, hb1.trans (hb2.mono hb1.size)⟩)
  clear hm1 hb1 hx hb2 c0
  unfold arrF at H0
  go_upto_region 2 with fail
  generalize w1.alloc (.cells #[.int .u64 0, .int .u64 0, .int .u64 0, .int .u64 0] 52) = w2 at *
  obtain ⟨q, hq⟩ : ∃ q, w1.heap.size = q := ⟨_, rfl⟩
  rw [hq] at H0 ⊢
  clear hq
  go_wp2_with fail
  go_loopw [5] (fun iv wr => ∃ i : Nat, i ≤ len ∧ i ≤ 80 ∧ iv = .int .i64 i ∧ Hid (LR w wr m q i)) (fun iv _ => len - (intOf iv).toNat)
  case atStart => exact ⟨0, Nat.zero_le _, by omega, rfl, H0⟩
  case round =>
    obtain ⟨i, hi, hi80, rfl, HG⟩ := hrel
    clear H0
    obtain ⟨w3, hw3⟩ : ∃ W, W = wr := ⟨_, rfl⟩
    subst hw3
    by_cases hin : i < len ∧ i < 80
    · obtain ⟨hin, hin80⟩ := hin
      obtain ⟨u, hu⟩ : ∃ u, l[i]? = some u := ⟨_, List.getElem?_eq_getElem (by have := HL.out; omega)⟩
      obtain ⟨-, bb, off, rfl, hlt, hc⟩ := (HE.out.below HG.out.choose_spec.2.2.2).at_ hu
      have hrw := HR.out u (List.mem_of_getElem? hu)
      obtain ⟨uw, ub, uv, ud⟩ := u
      have e0 := hc 0 (.int .i64 uw) rfl
      have e1 := hc 1 (.int .i64 ub) rfl
      have e2 := hc 2 (.int .u64 uv) rfl
      simp only [Nat.add_zero] at e0
      have hm3 := mask3 ub
      have hn3 := mask3 uw
      obtain ⟨k, hk, hkb⟩ : ∃ k : Nat, ub % 4 = (k : Int) ∧ k < 4 := ⟨(ub % 4).toNat, by omega, by omega⟩
      obtain ⟨S, hS⟩ : ∃ S, uw % 4 = S := ⟨_, rfl⟩
      rw [hk] at hm3
      rw [hS] at hn3
      have hSr : S = 0 ∨ S = 1 ∨ S = 2 ∨ S = 3 := by omega
      obtain ⟨x, hxx⟩ : ∃ x, bits .and .u64 uv 63 = x := ⟨_, rfl⟩
      have hxw : (Lit.int .u64 x).wf = true := by rw [← hxx]; exact wf_bits .and .u64 uv 63
      have hy := heap_alloc_self w3 (.cells #[.int .u64 x, .string ⟨#[]⟩] 54)
      have hb := (Below.refl w3.heap.size w3).alloc (Nat.le_refl _) (.cells #[.int .u64 x, .string ⟨#[]⟩] 54)
      obtain ⟨F, hM, hq, hqw, hbw⟩ := HG.out
      obtain ⟨hM4, hT4⟩ := hM.below hb
      have hb4 : Below bb.succ w3 (w3.alloc (.cells #[.int .u64 x, .string ⟨#[]⟩] 54)) := hb.mono hlt
      have E0 := (hb4.cell (p := ⟨bb, off + i * 4, none⟩) (Nat.lt_succ_self bb)).trans e0
      have HM4 := Lib.hid (And.intro hM4 (And.intro (below_at hb (lt_heap hq) hq) (And.intro (hbw.trans (hb.mono hbw.size)) hy)))
      have HQW := Lib.hid (And.intro hqw hxw)
      clear hc hu hrw hM hq hqw hbw hM4 hT4 hy hb hb4 hk hS hxw HG
      go_upto_region 7 with fail
      generalize w3.alloc (.cells #[.int .u64 x, .string ⟨#[]⟩] 54) = w4 at *
      obtain ⟨X, hX⟩ : ∃ X, w3.heap.size = X := ⟨_, rfl⟩
      rw [hX] at HM4 ⊢
      clear e0 e1 e2 hm3 hxx hX
      go_upto_block 2 with fail
      go_cut [] (fun wx => Hid (LR w wx m q (i + 1)))
      case first =>
        have hlr4 : LR w w4 m q i := ⟨F, HM4.out.1, HM4.out.2.1, HQW.out.1, HM4.out.2.2.1⟩
        have HLR4 := Lib.hid hlr4
        obtain ⟨d0, d1, -, -⟩ := item_cells HM4.out.2.2.2
        clear E0 hlr4
        rcases hSr with rfl | rfl | rfl | rfl
        · have cp := mputW k hkb x HQW.out.2 w4 w.heap.size m i F HM4.out.1
          go_wp2_with fail
          refine Calls.mono cp ?_
          rintro e w5 ⟨⟨b5, rfl⟩, hM5, hT5⟩
          have hq5 := hT5.keep q _ HM4.out.2.1 rfl
          have hx5 := hT5.itm HM4.out.2.2.2
          have n0 := cellQ hq5 (arrF_at F k hkb)
          have f0 := frzQ hq5 k
          have hb5 := HM4.out.2.2.1.trans hT5.below
          have H5 := Lib.hid (show LR w ((w5.setCell ⟨q, k, none⟩ (.int .u64 (max (F k) x)))).drew m q (i + 1) from ⟨mxF F k x, ((hM5.newest (G := F) hq5 k _).mono (Nat.le_succ i)).below (below_drew' (Below.refl _ _)) |>.1, by rw [← arrF_put F k hkb x]; exact heap_set_self hq5 k _, HQW.out.1, below_drew' (hb5.setCell (p := ⟨q, k, none⟩) HQW.out.1 _)⟩)
          clear d0 d1
          obtain ⟨d0, d1, -, -⟩ := item_cells hx5
          have hkk : (k : Int) < 4 := by omega
          clear hM5 hT5 hq5 hx5 hb5 cp
          go_upto_region 10 with fail
          go_region
          clear n0 f0 d0 d1
          go_wp2_with fail
          go_meet
          exact H5
        · have cp := mcleanW k hkb x w4 w.heap.size m i F HM4.out.1 (by omega)
          go_wp2_with fail
          refine Calls.mono cp ?_
          rintro e w5 ⟨⟨b5, rfl⟩, hM5, hT5⟩
          have H5 := Lib.hid (HLR4.out.step hM5 (hT5.keep q _ HM4.out.2.1 rfl) (HM4.out.2.2.1.trans hT5.below))
          clear hM5 hT5 cp d0 d1
          go_wp2_with fail
          go_meet
          exact H5
        · have cp := mwarmW k hkb x w4 w.heap.size m i F HM4.out.1 (by omega)
          go_wp2_with fail
          refine Calls.mono cp ?_
          rintro e w5 ⟨⟨b5, rfl⟩, hM5, hT5⟩
          have H5 := Lib.hid (HLR4.out.step hM5 (hT5.keep q _ HM4.out.2.1 rfl) (HM4.out.2.2.1.trans hT5.below))
          clear hM5 hT5 cp d0 d1
          go_wp2_with fail
          go_meet
          exact H5
        · have H5 := Lib.hid (HLR4.out.step (HM4.out.1.mono (Nat.le_succ i)) HM4.out.2.1 HM4.out.2.2.1)
          clear d0 d1
          go_wp2_with fail
          go_meet
          exact H5
      case rest =>
        obtain ⟨w6, hw6⟩ : ∃ W, W = wc := ⟨_, rfl⟩
        subst hw6
        obtain ⟨G, hM6, hq6, hqw6, hb6⟩ := hcut.out
        have cc := mcheckW k hkb w6 w.heap.size m (i + 1) G hM6
        have H6 := Lib.hid (And.intro hq6 (And.intro hqw6 hb6))
        clear hcut HM4 E0 hM6 hq6 hqw6 hb6 hSr hn3
        go_wp2_with fail
        refine Calls.mono cc ?_
        rintro e w7 ⟨kd, y, s, rfl, hkd, hM7, hT7⟩
        have hq7 := hT7.keep q _ H6.out.1 rfl
        have hy8 := heap_alloc_self w7 (.cells #[.int .u64 y, .string s] 54)
        have hb8 := (Below.refl w7.heap.size w7).alloc (Nat.le_refl _) (.cells #[.int .u64 y, .string s] 54)
        have H8 := Lib.hid (show LR w (w7.alloc (.cells #[.int .u64 y, .string s] 54)) m q (i + 1) from ⟨G, (hM7.below hb8).1, below_at hb8 (lt_heap hq7) hq7, H6.out.2.1, (H6.out.2.2.trans hT7.below).trans (hb8.mono hM7.le)⟩)
        have n0 := cellQ (below_at hb8 (lt_heap hq7) hq7) (arrF_at G k hkb)
        have hkk : (k : Int) < 4 := by omega
        clear cc hM7 hT7 hq7 hb8 H6
        go_upto_region 16 with fail
        generalize w7.alloc (.cells #[.int .u64 y, .string s] 54) = w8 at *
        obtain ⟨d0, d1, -, -⟩ := item_cells hy8
        clear hy8
        have H9 : ∀ t, Hid (LR w (w8.drewN t) m q (i + 1)) := fun t => Lib.hid (by
          obtain ⟨F', q1, q2, q3, q4⟩ := H8.out
          exact ⟨F', (q1.below (below_drewN' (Below.refl _ _) t)).1, q2, q3, below_drewN' q4 t⟩)
        rcases hkd with rfl | ⟨hkd, hle⟩
        · go_quiet (fail)
          have H10 := H9 nq
          clear H9
          go_wp2_with fail
          go_roundw
          case rel => exact ⟨i + 1, by omega, by omega, by go_num, H10⟩
          case measure => simp [intOf]; omega
        · have hk1 : (kd != 0) = true := by simp [hkd]
          have hk2 : decide (y < G k) = false := decide_eq_false (by omega)
          have hk3 : ¬ y < G k := by omega
          go_quiet (fail)
          have H10 := H9 nq
          clear H9
          go_wp2_with fail
          go_roundw
          case rel => exact ⟨i + 1, by omega, by omega, by go_num, H10⟩
          case measure => simp [intOf]; omega
    · have h2 : i = len ∨ (i < len ∧ i = 80) := by omega
      have HF := Lib.hid HG.out.choose_spec.2.2.2
      clear hin
      rcases h2 with rfl | ⟨h2, rfl⟩
      all_goals
        go_wp2_with fail
        refine Calls.mono (ca _) ?_
        rintro e w5 ⟨rfl, hb5⟩
        have HF5 := Lib.hid (HF.out.trans (hb5.mono HF.out.size))
        clear hb5
        go_wp2_with fail
        go_ret
        exact ⟨rfl, HF5.out⟩
end Go.Proofs.Ytfgmeeponipjeaa
