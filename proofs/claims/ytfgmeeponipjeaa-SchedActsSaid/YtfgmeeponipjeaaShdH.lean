/-
  SchedActs' walk.
-/
import Derived.Test.YtfgmeeponipjeaaShdG
import Derived.Test.YtfgmeeponipjeaaEq
namespace Go.Proofs.Ytfgmeeponipjeaa
open Go.RowKit
set_option linter.unusedVariables false
set_option linter.unusedSimpArgs false

theorem askkey : Try.prog.keyTypeAt 4 70 = true := by kernel_rfl
theorem ask_lits (x y z : Int) (s : ByteArray) (b : Bool) (hx : (Lit.int .i64 x).wf = true) (hy : (Lit.int .i64 y).wf = true) (hz : (Lit.int .i64 z).wf = true) (hs : s.size ≤ maxLen) : Try.prog.keyLits 4 70 [.int .i64 x, .int .i64 y, .int .i64 z, .string s, .bool b] = some [.int .i64 x, .int .i64 y, .int .i64 z, .string s.data.toList, .bool b] := by
  have c1 : Try.prog.cellsOf 70 = 5 := by kernel_rfl
  have c2 : Try.prog.cellsOf 3 = 1 := by kernel_rfl
  have c3 : Try.prog.cellsOf 4 = 1 := by kernel_rfl
  have c4 : Try.prog.cellsOf 9 = 1 := by kernel_rfl
  simp [Program.keyLits, Try.underlying70, Try.underlying3, Try.underlying4, Try.underlying9, c1, c2, c3, c4, hx, hy, hz, hs]
theorem ask_formed (x y z : Int) (s : ByteArray) (b : Bool) : (Value.agg #[.int .i64 x, .int .i64 y, .int .i64 z, .string s, .bool b]).formed Try.prog 70 = true := by kernel_rfl
theorem ask_same (x y z : Int) (s : ByteArray) (b : Bool) (w : World) (hx : (Lit.int .i64 x).wf = true) (hy : (Lit.int .i64 y).wf = true) (hz : (Lit.int .i64 z).wf = true) (hs : s.size ≤ maxLen) :
    (binOp .neq 70 (.agg #[.int .i64 x, .int .i64 y, .int .i64 z, .string s, .bool b]) (.agg #[.int .i64 x, .int .i64 y, .int .i64 z, .string s, .bool b])).run Try.prog w = .ok (.bool false) w :=
  (eq_deep (m := 4) (D := 4) (D' := 4) askkey (by decide) (ask_formed _ _ _ _ _) (ask_formed _ _ _ _ _) (ask_lits _ _ _ _ _ hx hy hz hs) (ask_lits _ _ _ _ _ hx hy hz hs) true (by simp) w).2
theorem letF_size (t : Int) : (letF t).size = 32 := letL_len t 32 (Nat.le_refl _)
theorem actK_ok (K t b : Int) (hb : 1 ≤ b) (hb2 : b ≤ 64) : (Lit.int .i64 (actK K t b).1.aw).wf = true ∧ (Lit.int .i64 (actK K t b).1.aa).wf = true ∧ (Lit.int .i64 (actK K t b).1.al).wf = true ∧ (actK K t b).1.ad.size ≤ maxLen := by
  have e1 : (⟨#[]⟩ : ByteArray).size ≤ maxLen := by decide
  unfold actK
  repeat' split
  · obtain ⟨p1, p2⟩ := bl_range (nx t) (show (1 : Int) ≤ 4 by decide)
    obtain ⟨q1, q2⟩ := bl_range (nx (nx t)) hb
    refine ⟨wf_of (by simp only; omega), wf_of (by simp only; omega), wf_of ?_, ?_⟩
    · show -9223372036854775808 ≤ askL (nx t) ∧ askL (nx t) ≤ 9223372036854775807
      unfold askL
      split <;> omega
    · show (askD (nx t)).size ≤ maxLen
      unfold askD
      split
      · rw [letF_size]; decide
      · exact e1
  all_goals exact ⟨(show (Lit.int .i64 0).wf = true by decide), (show (Lit.int .i64 0).wf = true by decide), (show (Lit.int .i64 0).wf = true by decide), e1⟩
theorem flatA : ∀ (xs : List (Array Value)) (i : Nat) {x : Array Value}, (∀ y ∈ xs, y.size = 12) → xs[i]? = some x → ∀ (k : Nat) (v : Value), x[k]? = some v → (xs.flatMap Array.toList)[i * 12 + k]? = some v
  | [], i, x, _, h, k, v, hv => by simp at h
  | y :: r, 0, x, hs, h, k, v, hv => by
    obtain rfl : y = x := by simpa using h
    have hk : k < y.toList.length := by simpa using (Array.getElem?_eq_some_iff.1 hv).1
    rw [List.flatMap_cons, show 0 * 12 + k = k by omega, List.getElem?_append_left hk]
    simpa using hv
  | y :: r, i + 1, x, hs, h, k, v, hv => by
    have h12 : y.toList.length = 12 := by simpa using hs y (by simp)
    rw [List.flatMap_cons, List.getElem?_append_right (by omega), h12, show (i + 1) * 12 + k - 12 = i * 12 + k by omega]
    exact flatA r i (fun z hz => hs z (by simp [hz])) (by simpa using h) k v hv
/-- how it stands between two acts that are compared -/
structure LI (s b : Int) (w wr : World) (v : Value) (g n i : Nat) : Prop where
  els : ∃ (xs : List (Array Value)) (base : Nat), xs.length = n ∧ wr.ownsRow base 72 12 v n (xs.flatMap Array.toList) ∧ ∀ j, j < n → ∃ ma mk ca ck, xs[j]? = some (actC (rA s b j) (.slice ma (rA s b j).M.length mk) (.slice ca (rA s b j).C.length ck)) ∧ Rows2 wr base (rA s b j) (.slice ma (rA s b j).M.length mk) (.slice ca (rA s b j).C.length ck)
  sb : SB wr g (stA s b i)
  ge : w.heap.size ≤ g
  below : Below w.heap.size w wr
theorem LI.only {s b : Int} {w wr w' : World} {v : Value} {g n i j : Nat} (h : LI s b w wr v g n i) (hs : SB w' g (stA s b j)) (ho : Only g wr w') : LI s b w w' v g n j := by
  obtain ⟨xs, base, h1, h2, h3⟩ := h.els
  refine ⟨⟨xs, base, h1, row_onlyE h2 h.sb ho (by decide), fun q hq => ?_⟩, hs, h.ge, h.below.trans (ho.below h.ge h.below.size)⟩
  obtain ⟨ma, mk, ca, ck, q1, q2, q3⟩ := h3 q hq
  exact ⟨ma, mk, ca, ck, q1, row_onlyE q2 h.sb ho (by decide), row_onlyE q3 h.sb ho (by decide)⟩
theorem LI.go {s b : Int} {w wr w' : World} {v : Value} {g n i : Nat} (h : LI s b w wr v g n i) (hb : Below wr.heap.size wr w') : LI s b w w' v g n i := h.only (h.sb.below hb) (Only.of_below hb)
/-- an element of what was drawn at once -/
theorem LI.el {s b : Int} {w wr : World} {a : Option Addr} {n c g i j : Nat} (h : LI s b w wr (.slice a n c) g n i) (hj : j < n) : ∃ na nk da dk B off, a = some ⟨B, off, none⟩ ∧ Rows2 wr 0 (rA s b j) (.slice na (rA s b j).M.length nk) (.slice da (rA s b j).C.length dk) ∧
    ∀ (k : Nat) u, (actC (rA s b j) (.slice na (rA s b j).M.length nk) (.slice da (rA s b j).C.length dk))[k]? = some u → wr.cell? ⟨B, off + j * 12 + k, none⟩ = some u := by
  obtain ⟨xs, base, h1, h2, h3⟩ := h.els
  obtain ⟨na, nk, da, dk, q1, q2, q3⟩ := h3 j hj
  obtain ⟨a', cap', he, -, -, -, h4⟩ := SR.owns h2
  injection he with e1 _ e2
  subst e1 e2
  rcases h4 with h4 | ⟨B, off, rfl, hlt, hc⟩
  · omega
  · refine ⟨na, nk, da, dk, B, off, rfl, ⟨own_baseS q2 (Nat.zero_le _), own_baseS q3 (Nat.zero_le _)⟩, fun k u hu => ?_⟩
    rw [Nat.add_assoc]
    refine hc _ u (flatA xs j (fun y hy => ?_) q1 k u hu)
    obtain ⟨p, hp⟩ := List.mem_iff_getElem?.1 hy
    obtain ⟨m1, m2, m3, m4, r1, -⟩ := h3 p (by have := (List.getElem?_eq_some_iff.1 hp).1; omega)
    rw [r1] at hp
    obtain rfl := Option.some.inj hp
    rfl
set_option maxHeartbeats 12800000 in
set_option maxRecDepth 100000 in
theorem schedacts_law (seed many blocks : Int) (w : World) (hs : (Lit.int .u64 seed).wf = true) (hm : (Lit.int .i64 many).wf = true) (hb : (Lit.int .i64 blocks).wf = true) :
    Calls Try.prog 6 #[.int .u64 seed, .int .i64 many, .int .i64 blocks] w fun e w' => e = .returned (.bool true) ∧ Below w.heap.size w w' := by
  have h63 : bits .and .i64 many 63 = many % 64 := mask_mod many 6 63 (by decide) (by decide)
  have h31 := mask31 blocks
  have h7 := mask7 many
  obtain ⟨n, hn, hn63⟩ : ∃ n : Nat, many % 64 = (n : Int) ∧ n ≤ 63 := ⟨(many % 64).toNat, by omega, by omega⟩
  obtain ⟨bm, hbm⟩ : ∃ x, blocks % 32 = x := ⟨_, rfl⟩
  obtain ⟨b, hbb⟩ : ∃ b, bm + 1 = b := ⟨_, rfl⟩
  obtain ⟨m8, hm8⟩ : ∃ x, many % 8 = x := ⟨_, rfl⟩
  have hb1 : 1 ≤ b := by omega
  have hb2 : b ≤ 64 := by omega
  have hm80 : 0 ≤ m8 := by omega
  have hm87 : m8 ≤ 7 := by omega
  rw [hn] at h63
  rw [hbm] at h31
  rw [hm8] at h7
  have hwb : IntKind.i64.wrap (bm + 1) = b := by rw [IntKind.wrap_i64]; omega
  obtain ⟨ng, hng⟩ : ∃ x, -1 - m8 = x := ⟨_, rfl⟩
  have hwn : IntKind.i64.wrap (-1 - m8) = ng := by rw [IntKind.wrap_i64]; omega
  have hng0 : ng < 0 := by omega
  have c0 := fun w => seven w
  have c1 := fun w => snewE seed w
  have cz := fun w => snewZ seed w
  have ca := fun w => awake42s w
  have cs := fun g w h => sacts g n seed b w h hb1 hb2 hn63
  have HC := Lib.hid (And.intro hb1 hb2)
  clear hs hm hb hn hbm hbb hm8 hng hb1 hb2
  go_enter Try.func6, Try.ntmps6
  go_upto_region 2 with fail
  clear h63 h31 hwb
  go_wp2_with fail
  refine Calls.mono (c0 _) ?_
  rintro e w1 ⟨rfl, hb1⟩
  have HB1 := Lib.hid hb1
  clear hb1
  go_wp2_with fail
  refine Calls.mono (c1 _) ?_
  rintro e w2 ⟨g1, rfl, hg1, hgs, hb2⟩
  have H2 := Lib.hid (And.intro (HB1.out.trans (hb2.mono HB1.out.size)) (Nat.le_trans HB1.out.size hgs))
  have cc := cs g1 w2 hg1
  clear hb2 hg1 hgs HB1 cs
  go_wp2_with fail
  refine Calls.mono cc ?_
  rintro e w3 ⟨la, lc, rfl, hga⟩
  have H3 := Lib.hid (And.intro hga (H2.out.1.trans (hga.choose_spec.2.2.2.2.below H2.out.2 H2.out.1.size)))
  clear hga cc H2
  go_wp2_with fail
  refine Calls.mono (c0 _) ?_
  rintro e w4 ⟨rfl, hb4⟩
  have HB4 := Lib.hid hb4
  clear hb4
  go_wp2_with fail
  refine Calls.mono (c1 _) ?_
  rintro e w5 ⟨g, rfl, hg5, hgs, hb5⟩
  have hbf := HB4.out.trans (hb5.mono HB4.out.size)
  have HL5 := Lib.hid (show LI seed b w w5 (.slice la n lc) g n 0 from by
    obtain ⟨xs, h1, h2, h3, h4, h5⟩ := H3.out.1
    refine ⟨⟨xs, _, h1, row_below h2 hbf, fun j hj => ?_⟩, hg5, Nat.le_trans H3.out.2.size (Nat.le_trans HB4.out.size hgs), H3.out.2.trans (hbf.mono H3.out.2.size)⟩
    obtain ⟨ma, mk, ca, ck, q1, q2, q3⟩ := h3 j hj
    exact ⟨ma, mk, ca, ck, q1, row_below q2 hbf, row_below q3 hbf⟩)
  clear hb5 hg5 hgs hbf HB4 H3
  go_wp2_with fail
  go_loopw [11] (fun iv wr => ∃ i : Nat, i ≤ n ∧ iv = .int .i64 i ∧ Hid (LI seed b w wr (.slice la n lc) g n i)) (fun iv _ => n - (intOf iv).toNat)
  case atStart => exact ⟨0, Nat.zero_le _, rfl, HL5⟩
  case round =>
    obtain ⟨i, hi, rfl, HL⟩ := hrel
    clear HL5
    by_cases hin : i < n
    · have cc := sact g (stA seed b i) b wr HL.out.sb HC.out.1 HC.out.2
      rw [show (actF (stA seed b i) b).1 = rA seed b i from rfl, show (actF (stA seed b i) b).2 = stA seed b (i + 1) from rfl] at cc
      have hok := actK_ok (kdF (bl (stA seed b i) 166)) (nx (stA seed b i)) b HC.out.1 HC.out.2
      rw [show (actK (kdF (bl (stA seed b i) 166)) (nx (stA seed b i)) b).1 = rA seed b i from rfl] at hok
      obtain ⟨R, hR⟩ : ∃ R, rA seed b i = R := ⟨_, rfl⟩
      rw [hR] at cc hok
      have hak := fun w => ask_same R.aw R.aa R.al R.ad R.sur w hok.1 hok.2.1 hok.2.2.1 hok.2.2.2
      have HR := Lib.hid hR
      unfold actC at cc
      clear hR hok c0 c1 cz ca
      go_wp2_with fail
      refine Calls.mono cc ?_
      rintro e w6 ⟨ma, mk, ca, ck, rfl, hrw, hs6, ho6⟩
      have hy := heap_alloc_self w6 (.cells #[.int .i64 R.k, .int .i64 R.who, .int .i64 R.a, .int .i64 R.b, .int .i64 R.aw, .int .i64 R.aa, .int .i64 R.al, .string R.ad, .bool R.sur, .slice ma R.M.length mk, .slice ca R.C.length ck, .string R.S] 72)
      have hb7 := (Below.refl w6.heap.size w6).alloc (Nat.le_refl _) (.cells #[.int .i64 R.k, .int .i64 R.who, .int .i64 R.a, .int .i64 R.b, .int .i64 R.aw, .int .i64 R.aa, .int .i64 R.al, .string R.ad, .bool R.sur, .slice ma R.M.length mk, .slice ca R.C.length ck, .string R.S] 72)
      have hL7 := (HL.out.only hs6 ho6).go hb7
      obtain ⟨na, nk, da, dk, B, off, hla, hrn, hcl⟩ := hL7.el hin
      subst hla
      rw [HR.out] at hrn hcl
      unfold actC at hcl
      have hlt : B < (w6.alloc (.cells #[.int .i64 R.k, .int .i64 R.who, .int .i64 R.a, .int .i64 R.b, .int .i64 R.aw, .int .i64 R.aa, .int .i64 R.al, .string R.ad, .bool R.sur, .slice ma R.M.length mk, .slice ca R.C.length ck, .string R.S] 72)).heap.size := World.block_lt_of_cell? _ _ (hcl 0 _ rfl)
      have H7 := Lib.hid (And.intro hL7 (And.intro hy (And.intro (row_below hrw.2 hb7) (And.intro hrn.2 hlt))))
      clear cc hrw hs6 ho6 hb7 hL7 hrn hy hlt
      go_upto_region 10 with fail
      generalize w6.alloc (.cells #[.int .i64 R.k, .int .i64 R.who, .int .i64 R.a, .int .i64 R.b, .int .i64 R.aw, .int .i64 R.aa, .int .i64 R.al, .string R.ad, .bool R.sur, .slice ma R.M.length mk, .slice ca R.C.length ck, .string R.S] 72) = w7 at *
      obtain ⟨A1, hA1⟩ : ∃ A, w6.heap.size = A := ⟨_, rfl⟩
      rw [hA1] at H7 ⊢
      clear hA1
      have hy2 := heap_alloc_self w7 (.cells #[.int .i64 R.k, .int .i64 R.who, .int .i64 R.a, .int .i64 R.b, .int .i64 R.aw, .int .i64 R.aa, .int .i64 R.al, .string R.ad, .bool R.sur, .slice na R.M.length nk, .slice da R.C.length dk, .string R.S] 72)
      have hb8 := (Below.refl w7.heap.size w7).alloc (Nat.le_refl _) (.cells #[.int .i64 R.k, .int .i64 R.who, .int .i64 R.a, .int .i64 R.b, .int .i64 R.aw, .int .i64 R.aa, .int .i64 R.al, .string R.ad, .bool R.sur, .slice na R.M.length nk, .slice da R.C.length dk, .string R.S] 72)
      have H8 := Lib.hid (And.intro (H7.out.1.go hb8) (And.intro (below_at hb8 (lt_heap H7.out.2.1) H7.out.2.1) (And.intro hy2 (And.intro (row_below H7.out.2.2.1 hb8) (row_below H7.out.2.2.2.1 hb8)))))
      have l0 := hcl 0 (.int .i64 R.k) rfl
      have l1 := hcl 1 (.int .i64 R.who) rfl
      have l2 := hcl 2 (.int .i64 R.a) rfl
      have l3 := hcl 3 (.int .i64 R.b) rfl
      have l4 := hcl 4 (.int .i64 R.aw) rfl
      have l5 := hcl 5 (.int .i64 R.aa) rfl
      have l6 := hcl 6 (.int .i64 R.al) rfl
      have l7 := hcl 7 (.string R.ad) rfl
      have l8 := hcl 8 (.bool R.sur) rfl
      have l9 := hcl 9 (.slice na R.M.length nk) rfl
      have l10 := hcl 10 (.slice da R.C.length dk) rfl
      have l11 := hcl 11 (.string R.S) rfl
      simp only [Nat.add_zero] at l0
      clear hcl hy2 hb8 H7
      go_upto_region 11 with fail
      generalize w7.alloc (.cells #[.int .i64 R.k, .int .i64 R.who, .int .i64 R.a, .int .i64 R.b, .int .i64 R.aw, .int .i64 R.aa, .int .i64 R.al, .string R.ad, .bool R.sur, .slice na R.M.length nk, .slice da R.C.length dk, .string R.S] 72) = w8 at *
      obtain ⟨A2, hA2⟩ : ∃ A, w7.heap.size = A := ⟨_, rfl⟩
      rw [hA2] at H8 ⊢
      clear hA2
      clear l0 l1 l2 l3 l4 l5 l6 l7 l8 l9 l10 l11
      have x0 := cellG H8.out.2.1 0 (v := .int .i64 R.k) rfl
      have y0 := cellG H8.out.2.2.1 0 (v := .int .i64 R.k) rfl
      have x1 := cellG H8.out.2.1 1 (v := .int .i64 R.who) rfl
      have y1 := cellG H8.out.2.2.1 1 (v := .int .i64 R.who) rfl
      have x2 := cellG H8.out.2.1 2 (v := .int .i64 R.a) rfl
      have y2 := cellG H8.out.2.2.1 2 (v := .int .i64 R.a) rfl
      have x3 := cellG H8.out.2.1 3 (v := .int .i64 R.b) rfl
      have y3 := cellG H8.out.2.2.1 3 (v := .int .i64 R.b) rfl
      have x4 := cellG H8.out.2.1 4 (v := .int .i64 R.aw) rfl
      have y4 := cellG H8.out.2.2.1 4 (v := .int .i64 R.aw) rfl
      have x5 := cellG H8.out.2.1 5 (v := .int .i64 R.aa) rfl
      have y5 := cellG H8.out.2.2.1 5 (v := .int .i64 R.aa) rfl
      have x6 := cellG H8.out.2.1 6 (v := .int .i64 R.al) rfl
      have y6 := cellG H8.out.2.2.1 6 (v := .int .i64 R.al) rfl
      have x7 := cellG H8.out.2.1 7 (v := .string R.ad) rfl
      have y7 := cellG H8.out.2.2.1 7 (v := .string R.ad) rfl
      have x8 := cellG H8.out.2.1 8 (v := .bool R.sur) rfl
      have y8 := cellG H8.out.2.2.1 8 (v := .bool R.sur) rfl
      have x9 := cellG H8.out.2.1 9 (v := .slice ma R.M.length mk) rfl
      have y9 := cellG H8.out.2.2.1 9 (v := .slice na R.M.length nk) rfl
      have x10 := cellG H8.out.2.1 10 (v := .slice ca R.C.length ck) rfl
      have y10 := cellG H8.out.2.2.1 10 (v := .slice da R.C.length dk) rfl
      have x11 := cellG H8.out.2.1 11 (v := .string R.S) rfl
      have y11 := cellG H8.out.2.2.1 11 (v := .string R.S) rfl
      have hss : (R.S.toList != R.S.toList) = false := by simp
      obtain ⟨cl, hcl⟩ : ∃ x, R.C.length = x := ⟨_, rfl⟩
      have HCL := Lib.hid hcl
      have hclm : cl ≤ 9223372036854775807 := by
        obtain ⟨p1, p2, -, p3, p4⟩ := (SR.owns H8.out.2.2.2.1).form
        unfold maxLen at p4
        omega
      rw [hcl] at x10 y10 ⊢
      clear hcl
      go_wp2_with fail
      clear hss hak x0 x1 x2 x3 x4 x5 x6 x7 x8 x9 x11 y0 y1 y2 y3 y4 y5 y6 y7 y8 y9 y11
      go_loopw [15] (fun kv wx => ∃ k q : Nat, k ≤ cl ∧ kv = .int .i64 k ∧ wx = w8.drewN q) (fun kv _ => cl - (intOf kv).toNat)
      case atStart => exact ⟨0, 0, Nat.zero_le _, rfl, rfl⟩
      case round =>
        obtain ⟨k, q, hk, rfl, rfl⟩ := hrel
        have x10' : (w8.drewN q).cell? ⟨A1, 10, none⟩ = some (.slice ca cl ck) := x10
        have y10' : (w8.drewN q).cell? ⟨A2, 10, none⟩ = some (.slice da cl dk) := y10
        by_cases hkl : k < cl
        · obtain ⟨bC, oC, hca, -, hcc⟩ := (SR.owns H8.out.2.2.2.1).int (by have := HCL.out; omega)
          obtain ⟨bD, oD, hda, -, hdd⟩ := (SR.owns H8.out.2.2.2.2).int (by have := HCL.out; omega)
          have e1 := hcc k (by have := HCL.out; omega)
          have e2 := hdd k (by have := HCL.out; omega)
          subst hca hda
          obtain ⟨z, hz⟩ : ∃ z, R.C.getD k 0 = z := ⟨_, rfl⟩
          rw [hz] at e1 e2
          have hkc : (k : Int) < cl := by omega
          have hzz : (z != z) = false := by simp
          clear hcc hdd hz
          go_upto_region 16 with fail
          clear x10' y10'
          go_quiet (fail)
          go_wp2_with fail
          go_roundw
          case rel => exact ⟨k + 1, _, by omega, by go_num, rfl⟩
          case measure => simp [intOf]; omega
        · obtain rfl : cl = k := by omega
          have HN := Lib.hid (H8.out.1.go (below_drewN' (Below.refl _ _) q))
          go_wp2_with fail
          go_roundw
          case rel => exact ⟨i + 1, by omega, by go_num, HN⟩
          case measure => simp [intOf]; omega
    · obtain rfl : n = i := by omega
      have HF := Lib.hid HL.out.below
      clear HL
      go_wp2_with fail
      refine Calls.mono (ca _) ?_
      rintro e w6 ⟨rfl, hb6⟩
      have H6 := Lib.hid (HF.out.trans (hb6.mono HF.out.size))
      clear hb6 HF
      go_wp2_with fail
      refine Calls.mono (c0 _) ?_
      rintro e w7 ⟨rfl, hb7⟩
      have H7 := Lib.hid (H6.out.trans (hb7.mono H6.out.size))
      clear hb7 H6
      go_wp2_with fail
      refine Calls.mono (c1 _) ?_
      rintro e w8 ⟨g3, rfl, hg8, hgs, hb8⟩
      have H8 := Lib.hid (H7.out.trans (hb8.mono H7.out.size))
      have cn := sactsN g3 ng b w8 hng0
      clear hb8 hg8 hgs H7
      go_wp2_with fail
      refine Calls.mono cn ?_
      rintro e w9 ⟨rfl, hw9⟩
      subst hw9
      clear cn
      go_wp2_with fail
      refine Calls.mono (cz _) ?_
      rintro e w10 ⟨g4, rfl, hg10, hgs, hb10⟩
      have H10 := Lib.hid (H8.out.trans (hb10.mono H8.out.size))
      have cy := sactsZ g4 n seed b w10 hg10 hn63
      clear hb10 hg10 hgs
      go_wp2_with fail
      refine Calls.mono cy ?_
      rintro e w11 ⟨rfl, hb11⟩
      have H11 := Lib.hid (H10.out.trans (hb11.mono H10.out.size))
      clear hb11 cy
      go_wp2_with fail
      go_ret
      exact ⟨rfl, H11.out⟩
end Go.Proofs.Ytfgmeeponipjeaa
