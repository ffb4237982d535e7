/-
  sched: so many acts.
-/
import Derived.Test.YtfgmeeponipjeaaShdE
namespace Go.Proofs.Ytfgmeeponipjeaa
open Go.RowKit
set_option linter.unusedVariables false
set_option linter.unusedSimpArgs false

def actF (s b : Int) : AV × Int := actK (kdF (bl s 166)) (nx s) b
def stA (s b : Int) : Nat → Int
  | 0 => s
  | i + 1 => (actF (stA s b i) b).2
def rA (s b : Int) (i : Nat) : AV := (actF (stA s b i) b).1
/-- the rows of an act -/
def Rows2 (w : World) (base : Nat) (r : AV) (vM vC : Value) : Prop := w.ownsRow base 3 1 vM r.M.length (nCells r.M) ∧ w.ownsRow base 3 1 vC r.C.length (nCells r.C)
theorem sact (g : Nat) (s b : Int) (w : World) (h : SB w g s) (hb : 1 ≤ b) (hb2 : b ≤ 64) : Calls Try.prog 27 #[.pointer (some ⟨g, 0, none⟩), .int .i64 b] w fun e w' => ∃ ma mk ca ck, e = .returned (.tuple #[.agg (actC (actF s b).1 (.slice ma (actF s b).1.M.length mk) (.slice ca (actF s b).1.C.length ck)), .bool true]) ∧ Rows2 w' w.heap.size (actF s b).1 (.slice ma (actF s b).1.M.length mk) (.slice ca (actF s b).1.C.length ck) ∧ SB w' g (actF s b).2 ∧ Only g w w' := by
  refine (sact_pre g s b w h hb hb2).mono ?_
  rintro e w' ⟨vM, vC, rfl, hM, hC, hs, ho⟩
  obtain ⟨ma, mk, rfl, -, -⟩ := (SR.owns hM).form
  obtain ⟨ca, ck, rfl, -, -⟩ := (SR.owns hC).form
  exact ⟨ma, mk, ca, ck, rfl, ⟨hM, hC⟩, hs, ho⟩
theorem row_onlyE {w w' : World} {base g n size : Nat} {e : TypeId} {s : Int} {v : Value} {xs : List Value} (h : w.ownsRow base e size v n xs) (hs : SB w g s) (ho : Only g w w') (he : e ≠ 109) : w'.ownsRow base e size v n xs := own_moveS h fun b q => by
  obtain ⟨c, hc⟩ := own_typeS h q
  refine ho.block b (lt_heap hc) fun q => ?_
  subst q
  unfold SB at hs
  rw [hs] at hc
  injection hc with hc
  injection hc with _ h2
  exact absurd h2.symm he
theorem row_below {w w' : World} {base n size : Nat} {e : TypeId} {v : Value} {xs : List Value} (h : w.ownsRow base e size v n xs) (hb : Below w.heap.size w w') : w'.ownsRow base e size v n xs := own_moveS h fun b q => by
  obtain ⟨c, hc⟩ := own_typeS h q
  exact hb.block b (lt_heap hc)
/-- a row of numbers stays while acts are laid behind one another -/
theorem row_app {w w' : World} {base base2 n m size : Nat} {o : Obj} {v u : Value} {xs ys : List Value} (h : w.ownsRow base 3 1 v n xs) (hu : w.ownsRow base2 72 size u m ys) (hg : (w.alloc o).grownBy w' u.ownBlock) : w'.ownsRow base 3 1 v n xs := own_moveS h fun b q => by
  obtain ⟨c, hc⟩ := own_typeS h q
  have hlt := lt_heap hc
  refine (hg.block b (by simp; omega) (fun e => ?_)).trans (Below.heap_alloc _ _ _ hlt)
  obtain ⟨c2, hc2⟩ := own_typeS hu e.symm
  rw [hc] at hc2
  injection hc2 with hc2
  injection hc2 with _ h2
  exact absurd h2 (by decide)
/-- what is gathered -/
def GA (s b : Int) (g : Nat) (w0 w : World) (v : Value) (j : Nat) : Prop := ∃ xs : List (Array Value), xs.length = j ∧ w.ownsRow w0.heap.size 72 12 v j (xs.flatMap Array.toList) ∧ (∀ i, i < j → ∃ ma mk ca ck, xs[i]? = some (actC (rA s b i) (.slice ma (rA s b i).M.length mk) (.slice ca (rA s b i).C.length ck)) ∧ Rows2 w w0.heap.size (rA s b i) (.slice ma (rA s b i).M.length mk) (.slice ca (rA s b i).C.length ck)) ∧ SB w g (stA s b j) ∧ Only g w0 w
theorem act_zero : ∃ i0 : TypeInfo, Try.prog.info? 72 = some i0 ∧ i0.zero = some (.agg #[.int .i64 0, .int .i64 0, .int .i64 0, .int .i64 0, .int .i64 0, .int .i64 0, .int .i64 0, .string ⟨#[]⟩, .bool false, .slice none 0 0, .slice none 0 0, .string ⟨#[]⟩]) ∧ i0.size = 12 ∧ i0.bytes = 144 := by
  have h : (Try.prog.info? 72).map (fun i => (i.zero, i.size, i.bytes)) = some (some (.agg #[.int .i64 0, .int .i64 0, .int .i64 0, .int .i64 0, .int .i64 0, .int .i64 0, .int .i64 0, .string ⟨#[]⟩, .bool false, .slice none 0 0, .slice none 0 0, .string ⟨#[]⟩]), 12, 144) := by kernel_rfl
  simp only [Option.map_eq_some_iff, Prod.mk.injEq] at h
  exact h
set_option maxHeartbeats 6400000 in
set_option maxRecDepth 100000 in
theorem sacts (g n : Nat) (s b : Int) (w : World) (h : SB w g s) (hb : 1 ≤ b) (hb2 : b ≤ 64) (hn : n ≤ 63) : Calls Try.prog 26 #[.pointer (some ⟨g, 0, none⟩), .int .i64 (n : Nat), .int .i64 b] w fun e w' => ∃ a c, e = .returned (.slice a n c) ∧ GA s b g w w' (.slice a n c) n := by
  obtain ⟨i0, hi0, hz0, hz1, hz2⟩ := act_zero
  have ca := fun s w h => sact g s b w h hb hb2
  have HB := Lib.hid (And.intro hb hb2)
  have hmin : min (n : Int) 2000 = n := by omega
  have hmin2 : (if (2000 : Int) < n then (2000 : Int) else (n : Int)) = n := by split <;> omega
  have H0 := Lib.hid (show GA s b g w w (.slice none 0 0) 0 from ⟨[], rfl, World.ownsRow_nil _ _ _ _, fun i hi => by omega, h, Only.refl _ _⟩)
  clear h hb hb2
  go_enter Try.func26, Try.ntmps26
  go_wp2_with fail
  go_loopw [7, 12] (fun sv iv wr => ∃ (j : Nat) (a : Option Addr) (c : Nat), j ≤ n ∧ sv = .slice a j c ∧ iv = .int .i64 j ∧ Hid (GA s b g w wr (.slice a j c) j)) (fun _ iv _ => n - (intOf iv).toNat)
  case atStart => exact ⟨0, _, _, Nat.zero_le _, rfl, rfl, H0⟩
  case round =>
    obtain ⟨j, a, c, hj, rfl, rfl, HG⟩ := hrel
    clear H0
    by_cases hlt : j < n
    · have hjn : (j : Int) < n := by omega
      obtain ⟨xs, hxl, hown, hel, hsb, hol⟩ := HG.out
      have cc := ca (stA s b j) wr hsb
      rw [show (actF (stA s b j) b).1 = rA s b j from rfl, show (actF (stA s b j) b).2 = stA s b (j + 1) from rfl] at cc
      obtain ⟨R, hR⟩ : ∃ R, rA s b j = R := ⟨_, rfl⟩
      rw [hR] at cc
      unfold actC at cc
      have HX := Lib.hid (And.intro hxl (And.intro hown (And.intro hel (And.intro hsb (And.intro hol hR)))))
      clear hxl hown hel hsb hol hR HG ca
      go_wp2_with fail
      refine Calls.mono cc ?_
      rintro e w1 ⟨ma, mk, ca, ck, rfl, hrw, hs1, ho1⟩
      have hy := heap_alloc_self w1 (.cells #[.int .i64 R.k, .int .i64 R.who, .int .i64 R.a, .int .i64 R.b, .int .i64 R.aw, .int .i64 R.aa, .int .i64 R.al, .string R.ad, .bool R.sur, .slice ma R.M.length mk, .slice ca R.C.length ck, .string R.S] 72)
      have hb1 := (Below.refl w1.heap.size w1).alloc (Nat.le_refl _) (.cells #[.int .i64 R.k, .int .i64 R.who, .int .i64 R.a, .int .i64 R.b, .int .i64 R.aw, .int .i64 R.aa, .int .i64 R.al, .string R.ad, .bool R.sur, .slice ma R.M.length mk, .slice ca R.C.length ck, .string R.S] 72)
      obtain ⟨w2, hW⟩ : ∃ W, w1.alloc (.cells #[.int .i64 R.k, .int .i64 R.who, .int .i64 R.a, .int .i64 R.b, .int .i64 R.aw, .int .i64 R.aa, .int .i64 R.al, .string R.ad, .bool R.sur, .slice ma R.M.length mk, .slice ca R.C.length ck, .string R.S] 72) = W := ⟨_, rfl⟩
      rw [hW] at hy hb1
      have HW := Lib.hid hW
      clear hW
      have hown2 := row_below (row_onlyE HX.out.2.1 HX.out.2.2.2.1 ho1 (by decide)) hb1
      have HY := Lib.hid (show Rows2 w2 w.heap.size R (.slice ma R.M.length mk) (.slice ca R.C.length ck) ∧ SB w2 g (stA s b (j + 1)) ∧ Only g w w2 ∧ (∀ i, i < j → ∃ ma mk ca ck, xs[i]? = some (actC (rA s b i) (.slice ma (rA s b i).M.length mk) (.slice ca (rA s b i).C.length ck)) ∧ Rows2 w2 w.heap.size (rA s b i) (.slice ma (rA s b i).M.length mk) (.slice ca (rA s b i).C.length ck)) from
        ⟨⟨row_below (own_baseS hrw.1 HX.out.2.2.2.2.1.size) hb1, row_below (own_baseS hrw.2 HX.out.2.2.2.2.1.size) hb1⟩, hs1.below hb1, (HX.out.2.2.2.2.1.trans ho1).trans (Only.of_below hb1), fun i hi => by
          obtain ⟨m1, m2, m3, m4, q1, q2, q3⟩ := HX.out.2.2.1 i hi
          exact ⟨m1, m2, m3, m4, q1, row_below (row_onlyE q2 HX.out.2.2.2.1 ho1 (by decide)) hb1, row_below (row_onlyE q3 HX.out.2.2.2.1 ho1 (by decide)) hb1⟩⟩)
      have HO := Lib.hid hown2
      clear cc hrw hs1 ho1 hb1 hown2
      go_upto_region 6 with fail
      rw [HW.out]
      have d0 := cellG hy 0 (v := .int .i64 R.k) rfl
      have d1 := cellG hy 1 (v := .int .i64 R.who) rfl
      have d2 := cellG hy 2 (v := .int .i64 R.a) rfl
      have d3 := cellG hy 3 (v := .int .i64 R.b) rfl
      have d4 := cellG hy 4 (v := .int .i64 R.aw) rfl
      have d5 := cellG hy 5 (v := .int .i64 R.aa) rfl
      have d6 := cellG hy 6 (v := .int .i64 R.al) rfl
      have d7 := cellG hy 7 (v := .string R.ad) rfl
      have d8 := cellG hy 8 (v := .bool R.sur) rfl
      have d9 := cellG hy 9 (v := .slice ma R.M.length mk) rfl
      have d10 := cellG hy 10 (v := .slice ca R.C.length ck) rfl
      have d11 := cellG hy 11 (v := .string R.S) rfl
      have hsz := HY.out.2.2.1.size
      go_wp2_with (at_builtin; refine wp_app Try.underlying62 hi0 hz0 hz1 hz2 rfl (by decide) rfl (.tmp 22) (.tmp 24) rfl w.heap.size _ _ _ rfl (HO.out.alloc _) _ 1 (#[.int .i64 R.k, .int .i64 R.who, .int .i64 R.a, .int .i64 R.b, .int .i64 R.aw, .int .i64 R.aa, .int .i64 R.al, .string R.ad, .bool R.sur, .slice ma R.M.length mk, .slice ca R.C.length ck, .string R.S]).toList rfl (SR.lit _ _ #[.int .i64 R.k, .int .i64 R.who, .int .i64 R.a, .int .i64 R.b, .int .i64 R.aw, .int .i64 R.aa, .int .i64 R.al, .string R.ad, .bool R.sur, .slice ma R.M.length mk, .slice ca R.C.length ck, .string R.S] 12 1 (by decide) rfl) ?c1 ?c2 ?c3 ?c4 ?_)
      case c1 => first | exact ⟨rfl, rfl, rfl, rfl, rfl, rfl, rfl, rfl, rfl, rfl, rfl, rfl⟩ | (simp [Value.oneCell']; done) | exact uC12 _
      case c2 => unfold maxLen; omega
      case c3 => omega
      case c4 => simp; omega
      intro v' w3 hown3 hgr
      obtain ⟨a2, c2, rfl, -, -⟩ := (SR.owns hown3).form
      have HN := Lib.hid (show GA s b g w w3 (.slice a2 (j + 1) c2) (j + 1) from ⟨xs ++ [#[.int .i64 R.k, .int .i64 R.who, .int .i64 R.a, .int .i64 R.b, .int .i64 R.aw, .int .i64 R.aa, .int .i64 R.al, .string R.ad, .bool R.sur, .slice ma R.M.length mk, .slice ca R.C.length ck, .string R.S]], by simp [HX.out.1], by rw [List.flatMap_append]; simpa using hown3, fun i hi => by
        by_cases e : i < j
        · obtain ⟨m1, m2, m3, m4, q1, q2, q3⟩ := HY.out.2.2.2 i e
          exact ⟨m1, m2, m3, m4, by rw [List.getElem?_append_left (by rw [HX.out.1]; exact e)]; exact q1, row_app q2 HO.out hgr, row_app q3 HO.out hgr⟩
        · obtain rfl : i = j := by omega
          refine ⟨ma, mk, ca, ck, ?_, ?_, ?_⟩
          · rw [List.getElem?_append_right (by have := HX.out.1; omega), HX.out.1, Nat.sub_self, HX.out.2.2.2.2.2]
            rfl
          · rw [HX.out.2.2.2.2.2]; exact row_app HY.out.1.1 HO.out hgr
          · rw [HX.out.2.2.2.2.2]; exact row_app HY.out.1.2 HO.out hgr, (hgr.block g (by have := lt_heap HY.out.2.1; simp; omega) (fun e => by
          obtain ⟨cu, hcu⟩ := own_typeS HO.out e.symm
          have h1 := HY.out.2.1
          unfold SB at h1
          rw [h1] at hcu
          injection hcu with hcu
          injection hcu with _ h2
          exact absurd h2 (by decide))).trans (Below.heap_alloc _ _ _ (lt_heap HY.out.2.1) |>.trans HY.out.2.1), (HY.out.2.2.1.alloc _).grown hgr (fun k e => (HO.out.lt k e).1)⟩)
      clear hown3 hgr
      go_wp2_with fail
      go_roundw
      case rel => exact ⟨j + 1, _, _, by omega, rfl, by go_num, HN⟩
      case measure => simp [intOf]; omega
    · obtain rfl : n = j := by omega
      go_wp2_with fail
      go_ret
      exact ⟨_, _, rfl, HG.out⟩
end Go.Proofs.Ytfgmeeponipjeaa
