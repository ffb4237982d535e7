/-
  Several texts, laid together.
-/
import Derived.Test.YtfgmeeponipjeaaMg18
import Derived.Deep.RegionWith
/-
  A cache with room for four: New, Put, Drop, Get, whatever it holds.
-/



namespace Go.Proofs.Ytfgmeeponipjeaa
open Go.RowKit
set_option linter.unusedVariables false
set_option linter.unusedSimpArgs false

set_option maxHeartbeats 800000 in
theorem cmayN (b x : Int) (w : World) (h0 : 0 ≤ b) (h1 : b < 64) : Calls Try.prog 82 #[.int .i64 b, .agg #[.int .u64 x, .string ⟨#[]⟩]] w fun e w' => e = .returned (.bool true) ∧ Below w.heap.size w w' := by
  have hb0 := (Below.refl w.heap.size w).alloc (Nat.le_refl _) (.cells #[.int .u64 x, .string ⟨#[]⟩] 54)
  have hy := heap_alloc_self w (.cells #[.int .u64 x, .string ⟨#[]⟩] 54)
  have cm := (mayT_none x).1
  unfold itemA at cm
  go_enter Try.func82, Try.ntmps82
  go_upto_region 1 with fail
  generalize w.alloc (.cells #[.int .u64 x, .string ⟨#[]⟩] 54) = w1 at *
  obtain ⟨d0, d1, -, -⟩ := item_cells hy
  have HB := Lib.hid hb0
  clear hb0 hy
  go_wp2_with fail
  refine Calls.mono (cm _) ?_
  rintro e w2 ⟨rfl, h2⟩
  have F := Lib.hid (HB.out.trans (h2.mono HB.out.size))
  clear h2
  go_wp2_with fail
  go_ret
  exact ⟨rfl, F.out⟩
theorem anewA4 (w : World) : Calls Try.prog 74 #[.int .i64 4] w fun e w' => e = .returned (.pointer (some ⟨w.heap.size, 0, none⟩)) ∧ w' = w.alloc (.cells (arcC 4 0 (fun _ => .slice none 0 0)) 142) := by
  go_enter Try.func74, Try.ntmps74
  go_wp2_with fail
  go_ret
  exact ⟨rfl, rfl⟩
theorem ai_nil : AI 4 0 (fun _ => []) := ⟨by decide, by decide, by decide, by decide, by decide, fun y => by simp [cnt]⟩
set_option maxHeartbeats 800000 in
theorem cnewA4 (w : World) : Calls Try.prog 48 #[.int .i64 4] w fun e w' => ∃ C a mp, e = .returned (.pointer (some ⟨C, 0, none⟩)) ∧ CacheW w' w.heap.size C a mp 0 (fun _ => .slice none 0 0) (fun _ => []) 0 (.map []) ∧ Below w.heap.size w w' := by
  have hb0 := (Below.refl w.heap.size w).alloc (Nat.le_refl _) (.cells (arcC 4 0 (fun _ => .slice none 0 0)) 142)
  have hz : (w.alloc (.cells (arcC 4 0 (fun _ => .slice none 0 0)) 142)).heap.size = w.heap.size + 1 := by simp
  have hA := arc_new w 4
  have hmm := @run_makeMap Try.prog
  go_enter Try.func48, Try.ntmps48
  go_wp2_with fail
  refine Calls.mono (anewA4 _) ?_
  rintro e w1 ⟨rfl, rfl⟩
  generalize w.alloc (.cells (arcC 4 0 (fun _ => .slice none 0 0)) 142) = w1 at *
  go_wp2_with fail
  go_ret
  have hb1 := hb0.alloc hb0.size (.map #[] 0)
  have hM := World.ownsMap_made (H := Unit) w1 Try.prog 3 itR
  have hA1 := hA.below ((Below.refl _ _).alloc (Nat.le_refl _) (.map #[] 0))
  generalize hw2 : w1.alloc (.map #[] 0) = w2 at *
  have hs : w2.heap.size = w.heap.size + 1 + 1 := by rw [← hw2, ← hz]; simp
  rw [← hs]
  rw [hz] at hM
  exact ⟨w2.heap.size, w.heap.size, w.heap.size + 1, rfl, ⟨hA1.below ((Below.refl _ _).alloc (Nat.le_refl _) _), ai_nil, heap_alloc_self _ _, hM.alloc _, by omega, fun y hy => by simp [kc] at hy⟩, hb1.alloc hb1.size _⟩
/-- what a turn of the cache leaves and shows -/
structure CTurn (w w' : World) (N C a mp : Nat) (n' : Nat) (W' : Int) (V' : Nat → Value) (L' : Nat → List Int) (D' : DataW Unit) : Prop where
  st : CacheW w' N C a mp W' V' L' n' D'
  keep : Keep cachP w w'
  below : Below N w w'
  size : w.heap.size ≤ w'.heap.size
theorem CTurn.trans {w w1 w2 : World} {N C a mp n1 n2 : Nat} {W1 W2 : Int} {V1 V2 : Nat → Value} {L1 L2 : Nat → List Int} {D1 D2 : DataW Unit} (h : CTurn w w1 N C a mp n1 W1 V1 L1 D1) (k : CTurn w1 w2 N C a mp n2 W2 V2 L2 D2) : CTurn w w2 N C a mp n2 W2 V2 L2 D2 :=
  ⟨k.st, h.keep.trans k.keep, h.below.trans k.below, Nat.le_trans h.size k.size⟩
theorem CTurn.of_below {w w' : World} {N C a mp n : Nat} {W : Int} {V : Nat → Value} {L : Nat → List Int} {D : DataW Unit} (h : CacheW w N C a mp W V L n D) (hb : Below w.heap.size w w') : CTurn w w' N C a mp n W V L D := ⟨h.below hb, Keep.below hb, hb.mono h.le, hb.size⟩
theorem CTurn.map {w w' : World} {N C a mp n n' : Nat} {W : Int} {V : Nat → Value} {L : Nat → List Int} {D D' : DataW Unit} (h : CacheW w N C a mp W V L n D) (h' : CacheW w' N C a mp W V L n' D') (k : Keep cachP w w') (hg : w.grownBy w' (some mp)) : CTurn w w' N C a mp n' W V L D' :=
  ⟨h', k, (Below.refl N w).grown hg h.le (fun k e => by cases e; exact h.low), hg.size⟩
theorem CTurn.arc {w w' : World} {N C a mp n : Nat} {W W' : Int} {V V' : Nat → Value} {L L' : Nat → List Int} {D : DataW Unit} (h : CacheW w N C a mp W V L n D) (hA : ArcAt w' N a 4 W' V' L') (hi : AI 4 W' L') (hk : ArcKept w w' N a V V') (hn : ∀ y, 0 < kc L' y → 0 ≤ y ∧ y < 64) : CTurn w w' N C a mp n W' V' L' D :=
  ⟨h.arcTo hA hi hk hn, arc_keep h.arc hk, hk.below, hk.size⟩
theorem wf64 {b : Int} (h : 0 ≤ b ∧ b < 64) : (Lit.int .i64 b).wf = true := wf_of (by omega)
set_option maxHeartbeats 1600000 in
set_option maxRecDepth 100000 in
theorem cdropW (b : Int) (w : World) (N C a mp : Nat) (W : Int) (V : Nat → Value) (L : Nat → List Int) (n : Nat) (D : DataW Unit) (h : CacheW w N C a mp W V L n D) (hb : 0 ≤ b ∧ b < 64) :
    Calls Try.prog 52 #[.pointer (some ⟨C, 0, none⟩), .int .i64 b] w fun e w' => e = .returned (.tuple #[]) ∧ ∃ W' V' L' D', CTurn w w' N C a mp n W' V' L' D' ∧ ∀ y, 0 < kc L' y → y ≠ b ∧ 0 < kc L y ∧ dat D' y = dat D y := by
  have cA := carcA w C _ h.cell.1
  have hl := h.ai.len (by decide)
  have cd := adropA b w N a 4 W V L h.arc (fun i hi => Nat.le_trans (hl i hi) (by decide))
  obtain ⟨hi1, hc1⟩ := drop_keeps b h.ai
  have hle : ∀ y, kc (if (L 0).contains b = true then upd L 0 ((L 0).erase b) else upd L 1 ((L 1).erase b)) y ≤ kc L y := fun y => by
    split
    · have := (erase_le (L 0) b).2 y
      show ((L 0).erase b).count y + (L 1).count y ≤ (L 0).count y + (L 1).count y
      omega
    · have := (erase_le (L 1) b).2 y
      show (L 0).count y + ((L 1).erase b).count y ≤ (L 0).count y + (L 1).count y
      omega
  obtain ⟨L1, hL1⟩ : ∃ L1, (if (L 0).contains b = true then upd L 0 ((L 0).erase b) else upd L 1 ((L 1).erase b)) = L1 := ⟨_, rfl⟩
  obtain ⟨q, hq⟩ : ∃ q, ((L 0).contains b || (L 1).contains b) = q := ⟨_, rfl⟩
  rw [hL1] at cd hi1 hc1 hle
  rw [hq] at cd
  have hk0 : kc L1 b = 0 := by
    rw [has_kc] at hc1
    simpa using hc1
  have HF := Lib.hid (And.intro hi1 (And.intro hle (And.intro hk0 h)))
  have hwf := wf64 hb
  clear hL1 hq hl hi1 hc1 hle hk0 h
  go_enter Try.func52, Try.ntmps52
  go_wp2_with fail
  refine Calls.mono cA ?_
  rintro e w1 ⟨rfl, rfl⟩
  go_wp2_with fail
  refine Calls.mono cd ?_
  rintro e w2 ⟨rfl, V', hA2, hK2⟩
  have HT := Lib.hid (CTurn.arc HF.out.2.2.2 hA2 HF.out.1 hK2 (fun y hy => HF.out.2.2.2.num y (Nat.lt_of_lt_of_le hy (HF.out.2.1 y))))
  clear cA cd hA2 hK2
  cases q
  · go_wp2_with fail
    go_end0
    refine ⟨rfl, _, _, _, _, HT.out, fun y hy => ⟨fun e => ?_, Nat.lt_of_lt_of_le hy (HF.out.2.1 y), rfl⟩⟩
    rw [e, HF.out.2.2.1] at hy
    exact Nat.lt_irrefl _ hy
  · obtain ⟨c0, c1⟩ := HT.out.st.cell
    obtain ⟨w3, hrun, hC3, hk3, hg3⟩ := HT.out.st.del b hwf 0
    have HT3 := Lib.hid (HT.out.trans (CTurn.map HT.out.st hC3 hk3 hg3))
    clear hC3 hk3 hg3
    go_wp2_with fail
    go_end0
    refine ⟨rfl, _, _, _, _, HT3.out, fun y hy => ?_⟩
    have hne : y ≠ b := fun e => by
      rw [e, HF.out.2.2.1] at hy
      exact Nat.lt_irrefl _ hy
    exact ⟨hne, Nat.lt_of_lt_of_le hy (HF.out.2.1 y), dat_del_other hne⟩
end Go.Proofs.Ytfgmeeponipjeaa
/-
  A cache with room for four: Put and Get, whatever it holds.
-/

namespace Go.Proofs.Ytfgmeeponipjeaa
open Go.RowKit
set_option linter.unusedVariables false
set_option linter.unusedSimpArgs false

theorem CTurn.itm {w w' : World} {N C a mp n : Nat} {W : Int} {V : Nat → Value} {L : Nat → List Int} {D : DataW Unit} (h : CTurn w w' N C a mp n W V L D) {X : Nat} {c : Array Value} (hx : w.heap[X]? = some (.cells c 54)) : w'.heap[X]? = some (.cells c 54) := h.keep X _ hx (by simp [cachP])
theorem CTurn.refl {w : World} {N C a mp n : Nat} {W : Int} {V : Nat → Value} {L : Nat → List Int} {D : DataW Unit} (h : CacheW w N C a mp W V L n D) : CTurn w w N C a mp n W V L D := ⟨h, Keep.refl _ _, Below.refl _ _, Nat.le_refl _⟩
theorem CTurn.drew {w w' : World} {N C a mp n : Nat} {W : Int} {V : Nat → Value} {L : Nat → List Int} {D : DataW Unit} (h : CTurn w w' N C a mp n W V L D) : CTurn w w'.drew N C a mp n W V L D :=
  h.trans (CTurn.of_below h.st (below_drew' (Below.refl _ _)))
theorem ku_num {L L' : Nat → List Int} {o : Option Int} {b : Int} (h : KU L L' o b) (hn : ∀ y, 0 < kc L y → 0 ≤ y ∧ y < 64) (hb : 0 ≤ b ∧ b < 64) : ∀ y, 0 < kc L' y → 0 ≤ y ∧ y < 64 := fun y hy => by
  by_cases e : y = b
  · rw [e]; exact hb
  · exact hn y (h.1 y e hy)
set_option maxHeartbeats 1600000 in
set_option maxRecDepth 100000 in
theorem cputW (b x : Int) (w : World) (N C a mp : Nat) (W : Int) (V : Nat → Value) (L : Nat → List Int) (n : Nat) (D : DataW Unit) (h : CacheW w N C a mp W V L n D) (hb : 0 ≤ b ∧ b < 64) (hn : n < 1000) :
    Calls Try.prog 55 #[.pointer (some ⟨C, 0, none⟩), .int .i64 b, .agg #[.int .u64 x, .string ⟨#[]⟩]] w fun e w' => e = .returned (.tuple #[]) ∧ ∃ W' V' L' D', CTurn w w' N C a mp (n + 1) W' V' L' D' ∧ ∀ y, 0 < kc L' y → (y = b ∧ dat D' y = .lit (.int .u64 x)) ∨ (y ≠ b ∧ 0 < kc L y ∧ dat D' y = dat D y) := by
  have hb0 := (Below.refl w.heap.size w).alloc (Nat.le_refl _) (.cells #[.int .u64 x, .string ⟨#[]⟩] 54)
  have hy := heap_alloc_self w (.cells #[.int .u64 x, .string ⟨#[]⟩] 54)
  have h1 := CTurn.of_below h hb0
  have cm := fun w => cmayN b x w hb.1 hb.2
  have hwf := wf64 hb
  have HNUM := Lib.hid h.num
  clear h hb0
  go_enter Try.func55, Try.ntmps55
  go_upto_region 1 with fail
  generalize w.alloc (.cells #[.int .u64 x, .string ⟨#[]⟩] 54) = w1 at *
  have cA := carcA w1 C _ h1.st.cell.1
  have H1 := Lib.hid (And.intro h1 hy)
  obtain ⟨d0, d1, -, -⟩ := item_cells hy
  clear h1 hy
  go_wp2_with fail
  refine Calls.mono cA ?_
  rintro e w2 ⟨rfl, rfl⟩
  go_wp2_with fail
  refine Calls.mono (cm _) ?_
  rintro e w2 ⟨rfl, h2⟩
  have hC2 := H1.out.1.trans (CTurn.of_below H1.out.1.st h2)
  have hy2 := below_at h2 (lt_heap H1.out.2) H1.out.2
  have cu := ause_kept b w2 N a 4 W V L hC2.st.arc hC2.st.ai (by decide) (by decide)
  have c20 := hC2.st.cell.1
  have H2 := Lib.hid (And.intro hC2 hy2)
  clear hC2 hy2 h2 cm cA H1 d0 d1
  go_wp2_with fail
  refine Calls.mono cu ?_
  rintro e w3 ⟨o, W', V', L', rfl, hA3, hi3, hK3, hku⟩
  have hT3 := H2.out.1.trans (CTurn.arc H2.out.1.st hA3 hi3 hK3 (ku_num hku HNUM.out hb))
  have hy3 := (CTurn.arc H2.out.1.st hA3 hi3 hK3 (ku_num hku HNUM.out hb)).itm H2.out.2
  have H3 := Lib.hid (And.intro hT3 (And.intro hy3 hku))
  clear hT3 hy3 hku hA3 hi3 hK3 cu H2 c20
  unfold outV
  obtain ⟨g, hg⟩ : ∃ g, o.getD 0 = g := ⟨_, rfl⟩
  obtain ⟨q, hq⟩ : ∃ q, o.isSome = q := ⟨_, rfl⟩
  rw [hg, hq]
  have HO := Lib.hid (And.intro hg hq)
  clear hg hq
  go_upto_if 26 with fail
  go_cut [] (fun wx => ∃ D1, Hid (CTurn w wx N C a mp n W' V' L' D1 ∧ wx.heap[w.heap.size]? = some (.cells #[.int .u64 x, .string ⟨#[]⟩] 54) ∧ ∀ y, 0 < kc L' y → dat D1 y = dat D y))
  case first =>
    cases q
    · go_wp2_with fail
      go_meet
      exact ⟨D, Lib.hid ⟨H3.out.1, H3.out.2.1, fun y hy => rfl⟩⟩
    · obtain ⟨g', rfl⟩ : ∃ g', o = some g' := Option.isSome_iff_exists.1 HO.out.2
      obtain rfl : g' = g := HO.out.1
      obtain ⟨k1, k2, k3⟩ := H3.out.2.2.2.1 g' rfl
      have hwg := wf64 (HNUM.out g' k3)
      obtain ⟨c0, c1⟩ := H3.out.1.st.cell
      obtain ⟨w4, hrun, hC4, hk4, hg4⟩ := H3.out.1.st.del g' hwg 0
      have HT4 := Lib.hid (CTurn.map H3.out.1.st hC4 hk4 hg4)
      have HK2 := Lib.hid k2
      clear hC4 hk4 hg4 k1 k2 k3
      go_wp2_with fail
      go_meet
      refine ⟨_, Lib.hid ⟨H3.out.1.trans HT4.out, HT4.out.itm H3.out.2.1, fun y hy => dat_del_other fun e => ?_⟩⟩
      rw [e, HK2.out] at hy
      exact Nat.lt_irrefl _ hy
  case rest =>
    obtain ⟨D1, HC⟩ := hcut
    have HKU := Lib.hid H3.out.2.2
    clear H3 HO
    obtain ⟨w5, hw5⟩ : ∃ W, W = wc := ⟨_, rfl⟩
    subst hw5
    have ch := ahas b w5 N a 4 W' V' L' HC.out.1.st.arc
    have c30 := HC.out.1.st.cell.1
    rw [has_kc, decide_eq_true HKU.out.2.2] at ch
    go_wp2_with fail
    refine Calls.mono ch ?_
    rintro e w6 ⟨rfl, rfl⟩
    obtain ⟨W6, hW⟩ : ∃ W, W = w5 := ⟨_, rfl⟩
    subst hW
    clear ch c30
    have hcd := HC.out.1.drew
    obtain ⟨W7, hrun, hC7, hk7, hg7⟩ := hcd.st.store hn b x hwf
    have HT7 := Lib.hid (hcd.trans (CTurn.map hcd.st hC7 hk7 hg7))
    have HM := Lib.hid hcd.st.isMap
    obtain ⟨c0, c1⟩ := HC.out.1.st.cell
    obtain ⟨d0, d1, -, -⟩ := item_cells HC.out.2.1
    clear hC7 hk7 hg7 hcd
    go_upto_region 6 with fail
    go_region
    go_end0
    refine ⟨rfl, _, _, _, _, HT7.out, fun y hy => ?_⟩
    by_cases e : y = b
    · subst e
      exact .inl ⟨rfl, dat_put HM.out _ _⟩
    · exact .inr ⟨e, HKU.out.1 y e hy, by rw [dat_put_other e]; exact HC.out.2.2 y hy⟩
set_option maxHeartbeats 1600000 in
set_option maxRecDepth 100000 in
/-- a block that is not kept -/
theorem cgetW_no (b : Int) (w : World) (N C a mp : Nat) (W : Int) (V : Nat → Value) (L : Nat → List Int) (n : Nat) (D : DataW Unit) (h : CacheW w N C a mp W V L n D) (hk : kc L b = 0) :
    Calls Try.prog 56 #[.pointer (some ⟨C, 0, none⟩), .int .i64 b] w fun e w' => e = .returned (.tuple #[.agg #[.int .u64 0, .string ⟨#[]⟩], .bool false]) ∧ Below w.heap.size w w' := by
  have hb0 := (Below.refl w.heap.size w).alloc (Nat.le_refl _) (.cells #[.int .u64 0, .string ⟨#[]⟩] 54)
  have hy := heap_alloc_self w (.cells #[.int .u64 0, .string ⟨#[]⟩] 54)
  have h1 := h.below hb0
  clear h
  go_enter Try.func56, Try.ntmps56
  go_upto_region 1 with fail
  generalize w.alloc (.cells #[.int .u64 0, .string ⟨#[]⟩] 54) = w1 at *
  have cA := carcA w1 C _ h1.cell.1
  have ch := ahas b w1 N a 4 W V L h1.arc
  rw [has_kc, decide_eq_false (by omega)] at ch
  obtain ⟨d0, d1, f0, f1⟩ := item_cells hy
  have HB := Lib.hid hb0
  clear h1 hb0
  go_wp2_with fail
  refine Calls.mono cA ?_
  rintro e w2 ⟨rfl, rfl⟩
  go_wp2_with fail
  refine Calls.mono ch ?_
  rintro e w2 ⟨rfl, rfl⟩
  clear cA ch
  go_wp2_with fail
  obtain ⟨s0, s1⟩ := item_over hy 0 ⟨#[]⟩
  have FO := Lib.hid ((HB.out.setCell (p := ⟨w.heap.size, 0, none⟩) (Nat.le_refl _) (.int .u64 0)).setCell (p := ⟨w.heap.size, 1, none⟩) (Nat.le_refl _) (.string ⟨#[]⟩))
  generalize (w1.setCell ⟨w.heap.size, 0, none⟩ (.int .u64 0)).setCell ⟨w.heap.size, 1, none⟩ (.string ⟨#[]⟩) = w5 at *
  refine bodyPost_ret (v := .tuple #[.agg #[.int .u64 0, .string ⟨#[]⟩], .bool false]) (by simp [results, Try.results56, go_sem, s0, s1]) rfl ?_
  exact ⟨rfl, FO.out⟩
def itP : Obj → Bool | .cells _ t _ => t == 54 | _ => false
theorem item_keep {w : World} {X k : Nat} {A : Array Value} (hx : w.heap[X]? = some (.cells A 54)) (v : Value) : Keep itP w (w.setCell ⟨X, k, none⟩ v) := fun j o hj hp => by
  refine (heap_setCell_far (fun e => ?_) v).trans hj
  subst e
  rw [hx] at hj
  obtain rfl := Option.some.inj hj
  simp [itP] at hp
theorem CTurn.cellI {w w' : World} {N C a mp n : Nat} {W : Int} {V : Nat → Value} {L : Nat → List Int} {D : DataW Unit} (h : CTurn w w' N C a mp n W V L D) {X : Nat} (hX : w.heap.size ≤ X) (hN : N ≤ X) {A : Array Value} (hx : w'.heap[X]? = some (.cells A 54)) (k : Nat) (v : Value) : CTurn w (w'.setCell ⟨X, k, none⟩ v) N C a mp n W V L D := by
  refine ⟨h.st.keep (item_keep hx v) (fun _ => rfl) (fun _ => rfl) (fun _ => rfl) (fun _ _ => rfl), fun j o hj hp => ?_, h.below.setCell (p := ⟨X, k, none⟩) hN v, by simpa using h.size⟩
  have := lt_heap hj
  exact (heap_setCell_far (fun e => by omega) v).trans (h.keep j o hj hp)
set_option maxHeartbeats 1600000 in
set_option maxRecDepth 100000 in
/-- a block that is kept -/
theorem cgetW_yes (b x : Int) (w : World) (N C a mp : Nat) (W : Int) (V : Nat → Value) (L : Nat → List Int) (n : Nat) (D : DataW Unit) (h : CacheW w N C a mp W V L n D) (hb : 0 ≤ b ∧ b < 64) (hk : 0 < kc L b) (hx : dat D b = .lit (.int .u64 x)) :
    Calls Try.prog 56 #[.pointer (some ⟨C, 0, none⟩), .int .i64 b] w fun e w' => e = .returned (.tuple #[.agg #[.int .u64 x, .string ⟨#[]⟩], .bool true]) ∧ ∃ W' V' L', CTurn w w' N C a mp n W' V' L' D ∧ ∀ y, 0 < kc L' y → 0 < kc L y := by
  have hb0 := (Below.refl w.heap.size w).alloc (Nat.le_refl _) (.cells #[.int .u64 0, .string ⟨#[]⟩] 54)
  have hy := heap_alloc_self w (.cells #[.int .u64 0, .string ⟨#[]⟩] 54)
  have h1 := CTurn.of_below h hb0
  have hwf := wf64 hb
  have HNW := Lib.hid (And.intro h.le h.num)
  clear h hb0
  go_enter Try.func56, Try.ntmps56
  go_upto_region 1 with fail
  generalize w.alloc (.cells #[.int .u64 0, .string ⟨#[]⟩] 54) = w1 at *
  have cA := carcA w1 C _ h1.st.cell.1
  have ch := ahas b w1 N a 4 W V L h1.st.arc
  rw [has_kc, decide_eq_true hk] at ch
  have cu := ause_kept b w1 N a 4 W V L h1.st.arc h1.st.ai (by decide) (by decide)
  have c10 := h1.st.cell.1
  have H1 := Lib.hid (And.intro h1 hy)
  clear h1 hy
  go_wp2_with fail
  refine Calls.mono cA ?_
  rintro e w2 ⟨rfl, rfl⟩
  go_wp2_with fail
  refine Calls.mono ch ?_
  rintro e w2 ⟨rfl, rfl⟩
  go_wp2_with fail
  refine Calls.mono cu ?_
  rintro e w3 ⟨o, W', V', L', rfl, hA3, hi3, hK3, hku⟩
  have hT := CTurn.arc H1.out.1.st hA3 hi3 hK3 (ku_num hku HNW.out.2 hb)
  have HT3 := Lib.hid (H1.out.1.trans hT)
  have hy3 := hT.itm H1.out.2
  have HKU := Lib.hid (show ∀ y, 0 < kc L' y → 0 < kc L y from fun y h => by
    by_cases e : y = b
    · rw [e]; exact hk
    · exact hku.1 y e h)
  have hl := HT3.out.st.look b x hwf hx
  obtain ⟨c0, c1⟩ := HT3.out.st.cell
  obtain ⟨d0, d1, f0, f1⟩ := item_cells hy3
  have HY3 := Lib.hid hy3
  clear hT hA3 hi3 hK3 hku cA ch cu c10 H1 hy3
  unfold outV
  go_wp2_with fail
  obtain ⟨s0, s1⟩ := item_over HY3.out x ⟨#[]⟩
  have FO := Lib.hid ((HT3.out.cellI (Nat.le_refl _) HNW.out.1 HY3.out 0 (.int .u64 x)).cellI (Nat.le_refl _) HNW.out.1 (heap_set_self HY3.out 0 (.int .u64 x)) 1 (.string ⟨#[]⟩))
  generalize (w3.setCell ⟨w.heap.size, 0, none⟩ (.int .u64 x)).setCell ⟨w.heap.size, 1, none⟩ (.string ⟨#[]⟩) = w5 at *
  refine bodyPost_ret (v := .tuple #[.agg #[.int .u64 x, .string ⟨#[]⟩], .bool true]) (by simp [results, Try.results56, go_sem, s0, s1]) rfl ?_
  exact ⟨rfl, W', V', L', FO.out, HKU.out⟩
end Go.Proofs.Ytfgmeeponipjeaa
/-
  A mirror with nothing kept: Put, Check, Met; the waking call of layer 24.
-/

namespace Go.Proofs.Ytfgmeeponipjeaa
open Go.RowKit
set_option linter.unusedVariables false
set_option linter.unusedSimpArgs false

set_option maxHeartbeats 1600000 in
set_option maxRecDepth 100000 in
theorem mput0 (w : World) (N p : Nat) (v : Value) (m C a : Nat) (A : Array Value) (mv : Value) (h : Mir w N p v [] m C a 0 A mv) :
    Calls Try.prog 19 #[.pointer (some ⟨m, 0, none⟩), .int .i64 3, .agg #[.int .u64 5, .string ⟨#[]⟩]] w fun e w' => e = .returned (.bool true) ∧ ∃ v', Mir w' N p v' [⟨3, 5, ⟨#[]⟩⟩] m C a 5 (A.setIfInBounds 3 (.int .u64 5)) mv ∧ w.heap.size ≤ w'.heap.size ∧ ∀ M, M ≤ m → M ≤ N → Below M w w' := by
  have hNw : N ≤ w.heap.size := Nat.le_trans h.set.1 (Nat.le_of_lt (lt_heap h.set.2.1))
  have hb0 := (Below.refl w.heap.size w).alloc (Nat.le_refl _) (.cells #[.int .u64 5, .string ⟨#[]⟩] 54)
  have hy := heap_alloc_self w (.cells #[.int .u64 5, .string ⟨#[]⟩] 54)
  have hz : (w.alloc (.cells #[.int .u64 5, .string ⟨#[]⟩] 54)).heap.size = w.heap.size + 1 := by simp
  have hml := lt_heap h.mir.at_
  have h1 := h.go hb0
  have ch := fun w => mhas3 w
  have cm := (mayT_none 5).1
  unfold itemA at cm
  clear h
  go_enter Try.func19, Try.ntmps19
  go_upto_region 1 with fail
  generalize w.alloc (.cells #[.int .u64 5, .string ⟨#[]⟩] 54) = w1 at *
  obtain ⟨d0, d1, -, -⟩ := item_cells hy
  obtain ⟨m3, -, -, -⟩ := h1.cell
  obtain ⟨N0, hN0⟩ : ∃ N, w1.heap.size = N := ⟨_, rfl⟩
  have HN := Lib.hid hN0
  have HB := Lib.hid hb0
  have HY := Lib.hid hy
  have HML := Lib.hid hml
  have hlt : w.heap.size < N0 := by omega
  have hlm : m < N0 := by omega
  have c1 : ∀ w', N0 ≤ w'.heap.size → Calls Try.prog 49 #[.int .i64 3] w' fun e w'' => e = .returned (.bool true) ∧ Stays N0 w' w'' := fun w' h => (ch w').mono fun e w'' ⟨he, hw⟩ => ⟨he, by rw [← hw]; exact stays_refl h⟩
  have c2 : ∀ w', N0 ≤ w'.heap.size → Calls Try.prog 50 #[.agg #[.int .u64 5, .string ⟨#[]⟩]] w' fun e w'' => e = .returned (.bool true) ∧ Stays N0 w' w'' := fun w' h => (cm w').mono fun e w'' ⟨he, hw⟩ => ⟨he, stays_of h hw⟩
  have HM := Lib.hid h1
  clear hb0 hy hz hml h1 ch cm hN0
  go_region_held3 (fun w' => N0 ≤ w'.heap.size ∧ Below N0 w1 w' ∧ ∀ b o, b < N0 → w'.cell? ⟨b, o, none⟩ = w1.cell? ⟨b, o, none⟩) (first | assumption | exact keeps_start HN.out | exact keeps_next (by assumption) (by assumption)) (first | (go_at_call 49; refine Calls.mono (c1 _ (And.left (by assumption))) ?_; rintro e wz ⟨rfl, hz⟩) | (go_at_call 50; refine Calls.mono (c2 _ (And.left (by assumption))) ?_; rintro e wz ⟨rfl, hz⟩))
  rename_i hfin
  have HB3 := Lib.hid (HB.out.trans (hfin.2.1.mono (Nat.le_of_lt hlt)))
  have H3 := Lib.hid (HM.out.go (HN.out.symm ▸ hfin.2.1))
  have y := below_at hfin.2.1 (by omega) (show w1.heap[w.heap.size]? = _ from HY.out)
  obtain ⟨W, hW⟩ : ∃ W, W = wz := ⟨_, rfl⟩
  subst hW
  clear hfin hz c1 c2 d0 d1 m3 HM
  obtain ⟨d0, d1, -, -⟩ := item_cells y
  obtain ⟨m3, m64, m65, f3⟩ := H3.out.cell
  go_upto_region 3 with fail
  go_region
  have HM4 := Lib.hid (H3.out.put 5).drew
  have y4 : (W.setCell ⟨m, 3, none⟩ (.int .u64 5)).drew.heap[w.heap.size]? = some (.cells #[.int .u64 5, .string ⟨#[]⟩] 54) := (heap_setCell_far (Nat.ne_of_lt HML.out) _).trans y
  have HB4 := Lib.hid (show w.heap.size ≤ (W.setCell ⟨m, 3, none⟩ (.int .u64 5)).drew.heap.size ∧ ∀ M, M ≤ m → M ≤ N → Below M w (W.setCell ⟨m, 3, none⟩ (.int .u64 5)).drew from ⟨by simpa using HB3.out.size, fun M h1 h2 => below_drew' ((HB3.out.mono (Nat.le_trans h2 hNw)).setCell (p := ⟨m, 3, none⟩) h1 _)⟩)
  generalize (W.setCell ⟨m, 3, none⟩ (.int .u64 5)).drew = W4 at *
  clear d0 d1 m3 m64 m65 f3 H3 HB3 y hz
  obtain ⟨d0, d1, -, -⟩ := item_cells y4
  obtain ⟨m3, m64, m65, f3⟩ := HM4.out.cell
  have cs := sput _ N p v [] HM4.out.set.drew ⟨3, 5, ⟨#[]⟩⟩ true (mayT_none 5) (by decide) (by decide)
  unfold itemA at cs
  rw [show putsL true [] (⟨3, 5, ⟨#[]⟩⟩ : HI) = true by decide, show putL true [] (⟨3, 5, ⟨#[]⟩⟩ : HI) = [⟨3, 5, ⟨#[]⟩⟩] from rfl] at cs
  clear m3 f3 y4
  go_upto_region 4 with fail
  go_region_with (go_at_call 51; refine Calls.mono cs ?_; rintro e w4 ⟨rfl, v', hs4, hk4⟩)
  all_goals
    have HM5 := Lib.hid (HM4.out.drew.step hs4 hk4)
    have HB5 := Lib.hid (show w.heap.size ≤ w4.heap.size ∧ ∀ M, M ≤ m → M ≤ N → Below M w w4 from ⟨Nat.le_trans HB4.out.1 hk4.size, fun M h1 h2 => (HB4.out.2 M h1 h2).trans ((okept_drew hk4).below.mono h2)⟩)
    have cc := cdrop0 C a mv 3 w4 HM5.out.cac.at_ HM5.out.arc.at_
    clear hs4 hk4
    obtain ⟨-, -, m65, -⟩ := HM5.out.cell
    go_wp2_with fail
    refine Calls.mono cc ?_
    rintro e w5 ⟨rfl, rfl⟩
    go_wp2_with fail
    go_ret
    exact ⟨rfl, v', HM5.out, HB5.out⟩
end Go.Proofs.Ytfgmeeponipjeaa
