/-
  A log behind any place: what is kept is cut.
-/
import Derived.Test.YtkdmnhmlkcejfaaRgE
namespace Go.Proofs.Ytkdmnhmlkcejfaa
open Go.RowKit
set_option linter.unusedVariables false
set_option linter.unusedSimpArgs false

variable {B T : Int}
set_option maxHeartbeats 1600000 in
set_option maxRecDepth 100000 in
theorem rclone (a : Addr) (m c : Nat) (xs : List Value) (hm : m ≤ 1000) (h1 : ∀ y ∈ xs, y.oneCell' = true) (w : World) (h : SR w (.slice (some a) m c) 7 m xs) :
    Calls Try.prog 30 #[.slice (some a) m c] w fun e w' => ∃ v', e = .returned v' ∧ w'.ownsRow w.heap.size 46 7 v' m xs ∧ Below w.heap.size w w' := by
  obtain ⟨i0, hi, hz0, hz1, hz2⟩ := info_parts einfoN
  have hq : ∀ w, (binOp .eql 25 (.slice (some a) m c) (.slice none 0 0)).run Try.prog w = .ok (.bool false) w := fun w => by kernel_rfl
  have HS := Lib.hid h
  have hb := (Below.refl w.heap.size w).alloc (Nat.le_refl _) (.cells #[] 46)
  have HB := Lib.hid hb
  have hrow : (w.alloc (.cells #[] 46)).ownsRow w.heap.size 46 7 (.slice (some ⟨w.heap.size, 0, none⟩) 0 0) 0 [] := World.ownsRow_lit (base := w.heap.size) w #[] 0 (Nat.le_refl _) (by decide) rfl
  have HR := Lib.hid hrow
  clear h hb hrow
  go_enter Try.func30, Try.ntmps30
  go_wp2_with (at_builtin; refine wp_app Try.underlying25 hi hz0 hz1 hz2 rfl (by decide) rfl (.tmp 5) (.tmp 6) rfl w.heap.size _ _ _ rfl HR.out _ m xs rfl (HS.out.below HB.out) h1 ?c2 ?c3 ?c4 ?_)
  case c2 => unfold maxLen; omega
  case c3 => omega
  case c4 => first | exact HB.out.size | (simp; done)
  intro v' w5 hown hgr
  have hb5 : Below w.heap.size w w5 := HB.out.grown hgr HB.out.size (fun k e => by cases e; exact Nat.le_refl _)
  have H5 := Lib.hid (And.intro hown hb5)
  clear hown hgr hb5
  go_wp2_with fail
  go_ret
  exact ⟨_, rfl, by simpa using H5.out.1, H5.out.2⟩
theorem sr_drop {w : World} {b off n cap d : Nat} {es : List EN} (h : SR w (.slice (some ⟨b, off, none⟩) n cap) 7 n (enCells es)) (hn : es.length = n) (hd : d ≤ n) : SR w (.slice (some ⟨b, off + d * 7, none⟩) (n - d) (cap - d)) 7 (n - d) (enCells (es.drop d)) := by
  obtain ⟨a, c, e, h1, h2, h3, h4⟩ := h
  injection e with e1 e2 e3
  subst e1 e3
  refine ⟨_, _, rfl, by omega, by omega, by rw [enCells_len, List.length_drop, hn], ?_⟩
  rcases h4 with h4 | ⟨b', off', e, hb, hc⟩
  · left; omega
  · cases e
    refine .inr ⟨_, _, rfl, hb, fun j u hj => ?_⟩
    have hsp : enCells es = enCells (es.take d) ++ enCells (es.drop d) := by rw [enCells_append, List.take_append_drop]
    have hl : (enCells (es.take d)).length = d * 7 := by rw [enCells_len, List.length_take, hn, Nat.min_eq_left hd]
    have := hc (d * 7 + j) u (by rw [hsp, List.getElem?_append_right (by omega), hl, Nat.add_sub_cancel_left]; exact hj)
    rw [← Nat.add_assoc] at this
    exact this
set_option maxHeartbeats 6400000 in
set_option maxRecDepth 100000 in
theorem rcutG (at_ : Int) (hat : -1000000 ≤ at_ ∧ at_ ≤ 1000) (w : World) (N g : Nat) (v : Value) (ts : List EN) (h : LogG B T w N g v ts) (hts : ts.length ≤ 300) :
    Calls Try.prog 11 #[.pointer (some ⟨g, 0, none⟩), .int .i64 at_] w fun ev w' => ev = .returned (.bool (decide (B < at_) && decide (at_ ≤ B + ts.length))) ∧ Only g w w' ∧
      if (decide (B < at_) && decide (at_ ≤ B + ts.length)) = true then ∃ v', LogG at_ (termG B T ts at_) w' N g v' (ts.drop (at_ - B).toNat) ∧ ∀ k, v'.ownBlock = some k → w.heap.size ≤ k else LogG B T w' N g v ts := by
  obtain ⟨hb1, hb2⟩ := h.bd
  obtain ⟨m, hm⟩ : ∃ m, ts.length = m := ⟨_, rfl⟩
  have c1 := rlenG w N g v ts h (by omega)
  have c2 := fun q => rtermG at_ (w.drewN q) N g v ts (h.drewN q) (by omega) hat.1 (by omega)
  rw [hm] at c1 hts
  rw [hm]
  have hcase : v = .slice none 0 0 ∧ m = 0 ∨ ∃ b c, v = .slice (some ⟨b, 0, none⟩) m c ∧ m ≤ c ∧ c ≤ maxLen ∧ N ≤ b ∧ b ≠ g := by
    rcases h.row.2 with ⟨e, h0⟩ | ⟨b, c, cur, e, p1, p2, h1, h2, _⟩
    · exact .inl ⟨e, by omega⟩
    · exact .inr ⟨b, c, by rw [e, hm], by omega, h2, p1, fun e2 => row_otherE h.row h.obj (by decide) (by rw [e, e2]; rfl)⟩
  obtain ⟨g0, g1, g2, gf⟩ := h.cells
  have H0 := Lib.hid h
  have HM := Lib.hid hm
  clear h hm
  obtain ⟨S, hS⟩ : ∃ S, termG B T ts at_ = S := ⟨_, rfl⟩
  rw [hS] at c2
  rw [hS]
  clear hS
  by_cases x1 : at_ ≤ B
  · have e : decide (B < at_) = false := by simp; omega
    rw [e, Bool.false_and]
    go_enter Try.func11, Try.ntmps11
    go_wp2_with fail
    go_ret
    exact ⟨rfl, Only.refl _ _, by simpa using H0.out⟩
  by_cases x2 : B + (m : Int) < at_
  · have e : decide (at_ ≤ B + (m : Int)) = false := by simp; omega
    rw [e, Bool.and_false]
    go_enter Try.func11, Try.ntmps11
    go_wp2_with fail
    refine Calls.mono c1 ?_
    rintro ev w1 ⟨rfl, q, rfl⟩
    go_wp2_with fail
    go_ret
    exact ⟨rfl, onlyN (Only.refl _ _) q, by simpa using H0.out.drewN q⟩
  have e : (decide (B < at_) && decide (at_ ≤ B + (m : Int))) = true := by simp; omega
  rw [e]
  rcases hcase with ⟨rfl, rfl⟩ | ⟨b, c, rfl, hmc, hcm, hNb, hbg⟩
  · exfalso; simp at x2; omega
  obtain ⟨k, hk⟩ : ∃ k : Nat, at_ - B = k := ⟨(at_ - B).toNat, by omega⟩
  have hkm : k ≤ m := by omega
  have hk1 : (k : Int) ≤ m := by omega
  have hk2 : (k : Int) ≤ c := by omega
  have hw : IntKind.i64.wrap (at_ - B) = k := by rw [IntKind.wrap_i64]; omega
  have hsr := SR.owns H0.out.row
  rw [HM.out] at hsr
  have hone : ∀ y ∈ enCells (ts.drop k), y.oneCell' = true := enCells_one _
  have cc := fun q => rclone ⟨b, 0 + k * 7, none⟩ (m - k) (c - k) (enCells (ts.drop k)) (by omega) hone (w.drewN q) ((sr_drop hsr HM.out hkm).below (below_drewN' (Below.refl _ _) q))
  simp only [Nat.zero_add] at cc
  have HK := Lib.hid hk
  have hgl := lt_heap H0.out.obj
  unfold maxLen at hcm
  clear hsr hone e hk
  go_enter Try.func11, Try.ntmps11
  go_wp2_with fail
  refine Calls.mono c1 ?_
  rintro ev w1 ⟨rfl, q, rfl⟩
  have g0q : (w.drewN q).cell? ⟨g, 0, none⟩ = some (.int .i64 B) := g0
  go_wp2_with fail
  refine Calls.mono (c2 q) ?_
  rintro ev w1 ⟨rfl, q2, rfl⟩
  rw [drewN_moreR]
  have HC := Lib.hid (And.intro hbg hgl)
  go_upto_region 4 with fail
  go_cut [] (fun wx => ∃ v' wz, Only g w wz ∧ wz.heap[g]? = some (.cells #[.int .i64 B, .int .i64 T, .slice (some ⟨b, 0, none⟩) m c] 70) ∧ Below w.heap.size w wz ∧ wz.ownsRow w.heap.size 46 7 v' (m - k) (enCells (ts.drop k)) ∧ wx = wz.setCell ⟨g, 2, none⟩ v')
  case first =>
    by_cases hck : c = k
    · obtain rfl : m = k := by omega
      subst hck
      have ce := fun q => rclone ⟨b, 0, none⟩ 0 0 [] (by omega) (by simp) (w.drewN q) ⟨_, _, rfl, by omega, by decide, rfl, .inl rfl⟩
      have e0 : enCells (ts.drop c) = [] := by rw [List.drop_eq_nil_of_le (by rw [HM.out]; exact Nat.le_refl _)]; rfl
      have E0 := Lib.hid e0
      clear cc e0
      go_region_with (first | (go_at_call 30; (with_reducible refine Calls.mono (ce _) ?_); rintro ev wz ⟨v', rfl, hown, hbz⟩; (obtain ⟨av, cv, rfl⟩ := owns_form3 hown); (have hgz := below_at hbz hgl H0.out.obj); (have z2 := cell_atD hgz 2 (v := .slice (some ⟨b, 0, none⟩) c c) rfl); (have zf : wz.frozen? ⟨g, 2, none⟩ = false := by simp [World.frozen?, hgz])))
      all_goals go_wp2_with fail
      all_goals go_meet
      all_goals exact ⟨_, wz, onlyB ((below_drewN' (Below.refl _ _) _).trans hbz), hgz, (below_drewN' (Below.refl _ _) _).trans hbz, by rw [E0.out, Nat.sub_self]; exact hown, rfl⟩
    · go_region_with (first | (go_at_call 30; (with_reducible refine Calls.mono (cc _) ?_); rintro ev wz ⟨v', rfl, hown, hbz⟩; (obtain ⟨av, cv, rfl⟩ := owns_form3 hown); (have hgz := below_at hbz hgl H0.out.obj); (have z2 := cell_atD hgz 2 (v := .slice (some ⟨b, 0, none⟩) m c) rfl); (have zf : wz.frozen? ⟨g, 2, none⟩ = false := by simp [World.frozen?, hgz])))
      all_goals go_wp2_with fail
      all_goals go_meet
      all_goals exact ⟨_, wz, onlyB ((below_drewN' (Below.refl _ _) _).trans hbz), hgz, (below_drewN' (Below.refl _ _) _).trans hbz, hown, rfl⟩
  case rest =>
    obtain ⟨v', wz, hoz, hgz, hbz, hown, rfl⟩ := hcut
    obtain ⟨av, cv, rfl⟩ := owns_form3 hown
    have q1 : (wz.setCell ⟨g, 2, none⟩ (.slice av (m - k) cv)).heap[g]? = some (.cells #[.int .i64 B, .int .i64 T, .slice av (m - k) cv] 70) := heap_set_self hgz 2 _
    have q2 : ((wz.setCell ⟨g, 2, none⟩ (.slice av (m - k) cv)).setCell ⟨g, 0, none⟩ (.int .i64 at_)).heap[g]? = some (.cells #[.int .i64 at_, .int .i64 T, .slice av (m - k) cv] 70) := heap_set_self q1 0 _
    have q3 : (((wz.setCell ⟨g, 2, none⟩ (.slice av (m - k) cv)).setCell ⟨g, 0, none⟩ (.int .i64 at_)).setCell ⟨g, 1, none⟩ (.int .i64 S)).heap[g]? = some (.cells #[.int .i64 at_, .int .i64 S, .slice av (m - k) cv] 70) := heap_set_self q2 1 _
    have q4 : Only g wz (((wz.setCell ⟨g, 2, none⟩ (.slice av (m - k) cv)).setCell ⟨g, 0, none⟩ (.int .i64 at_)).setCell ⟨g, 1, none⟩ (.int .i64 S)) := (((Only.refl _ _).set 2 _).set 0 _).set 1 _
    have e2 := cell_atD q1 0 (v := .int .i64 B) rfl
    have e3 := cell_atD q1 1 (v := .int .i64 T) rfl
    have fz : ∀ j, (wz.setCell ⟨g, 2, none⟩ (.slice av (m - k) cv)).frozen? ⟨g, j, none⟩ = false := fun j => by simp [World.frozen?, q1]
    have hgi : ∀ (w' : World) (b : Nat) (c : Array Value), w'.heap[g]? = some (.cells #[.int .i64 B, .int .i64 T, .slice (some ⟨b, 0, none⟩) m cv] 70) → True := fun _ _ _ _ => trivial
    have HF := Lib.hid (show LogG at_ S (((wz.setCell ⟨g, 2, none⟩ (.slice av (m - k) cv)).setCell ⟨g, 0, none⟩ (.int .i64 at_)).setCell ⟨g, 1, none⟩ (.int .i64 S)) N g (.slice av (m - k) cv) (ts.drop k) ∧ Only g w (((wz.setCell ⟨g, 2, none⟩ (.slice av (m - k) cv)).setCell ⟨g, 0, none⟩ (.int .i64 at_)).setCell ⟨g, 1, none⟩ (.int .i64 S)) ∧ ∀ k', (Value.slice av (m - k) cv).ownBlock = some k' → w.heap.size ≤ k' from by
      refine ⟨⟨H0.out.low, q3, ?_, fun e he => EN.own.move (H0.out.lists e (List.mem_of_mem_drop he)) fun b' c' hb' => ?_, by omega⟩, hoz.trans q4, fun k' e' => (hown.lt k' e').1⟩
      · have hl : (ts.drop k).length = m - k := by rw [List.length_drop, HM.out]
        rw [hl]
        refine own_moveN (owns_baseD hown H0.out.le) fun b' hb' => q4.block b' (hown.lt b' hb').2 fun e => ?_
        have := (hown.lt b' hb').1
        omega
      · have hne : b' ≠ g := by
          rintro rfl
          rw [H0.out.obj] at hb'
          injection hb' with hb'
          injection hb' with _ h2
          exact absurd h2 (by decide)
        exact (q4.block b' (Nat.lt_of_lt_of_le (lt_heap hb') hbz.size) hne).trans (hoz.block b' (lt_heap hb') hne))
    clear q1 q2 q3 q4 hgz hoz hown hbz hgi cc
    go_wp2_with fail
    go_ret
    refine ⟨rfl, HF.out.2.1, ?_⟩
    first
      | exact ⟨_, by rw [show (at_ - B).toNat = k by have := HK.out; omega]; exact HF.out.1, HF.out.2.2⟩
      | (rw [if_pos rfl]; exact ⟨_, by rw [show (at_ - B).toNat = k by have := HK.out; omega]; exact HF.out.1, HF.out.2.2⟩)
      | (simp only [if_true]; exact ⟨_, by rw [show (at_ - B).toNat = k by have := HK.out; omega]; exact HF.out.1, HF.out.2.2⟩)
end Go.Proofs.Ytkdmnhmlkcejfaa
