/-
  JournalPlays.
-/
import Derived.Test.YtgnnijpfkgmomaaGreatDoorJpl
namespace Go.Proofs.YtgnnijpfkgmomaaGreatDoor
open Go.RowKit
set_option linter.unusedVariables false
set_option linter.unusedSimpArgs false

set_option maxHeartbeats 12800000 in
set_option maxRecDepth 100000 in
theorem journalplays_law (sectors : Int) (a0 : Option Addr) (len cap : Nat) (w : World) (hs : (Lit.int .i64 sectors).wf = true) (f0 : Fits w (.slice actShJ) [.slice a0 len cap]) :
    Calls Tryz.prog 3 #[.int .i64 sectors, .slice a0 len cap] w fun e w' => e = .returned (.bool true) ∧ Below w.heap.size w w' := by
  obtain ⟨hlc, hcm, hel⟩ := f0.slice
  unfold maxLen at hcm
  have HEL := Lib.hid hel
  have hm15 := mask15 sectors
  obtain ⟨n0, hn0⟩ : ∃ n0 : Nat, sectors % 16 = (n0 : Int) := ⟨(sectors % 16).toNat, by omega⟩
  have hn15 : n0 < 16 := by omega
  rw [hn0] at hm15
  obtain ⟨n, hn⟩ : ∃ n, 6 + n0 = n := ⟨_, rfl⟩
  have hni : (6 : Int) + (n0 : Int) = (n : Int) := by omega
  have cn := dnew n w (by omega) (by omega)
  have hn6 : 6 ≤ n := by omega
  have hn21 : n ≤ 21 := by omega
  clear f0 hel hs hn0 hn
  go_enter Tryz.func3, Tryz.ntmps3
  go_wp2_with fail
  refine Calls.mono cn ?_
  rintro e w1 ⟨q, sv, rfl, hd, hb1⟩
  have HB1 := Lib.hid hb1
  have co := jopen (dr_fresh hd hn6 (by omega))
  clear cn hd hb1
  go_wp2_with fail
  refine Calls.mono co ?_
  rintro e w2 ⟨p, pv, rfl, hx2, hpv2, hb2⟩
  have HB2 := Lib.hid (HB1.out.trans (hb2.mono HB1.out.size))
  have hN2 := HB2.out.size
  have hr1 : (w2.alloc (.cells #[] 43)).ownsRow w2.heap.size 43 2 (.slice (some ⟨w2.heap.size, 0, none⟩) 0 0) 0 [] := World.ownsRow_lit (base := w2.heap.size) w2 #[] 0 (Nat.le_refl _) (by unfold maxLen; omega) rfl
  have hr2 : ((w2.alloc (.cells #[] 43)).alloc (.cells #[] 43)).ownsRow (w2.alloc (.cells #[] 43)).heap.size 43 2 (.slice (some ⟨(w2.alloc (.cells #[] 43)).heap.size, 0, none⟩) 0 0) 0 [] := World.ownsRow_lit (base := (w2.alloc (.cells #[] 43)).heap.size) (w2.alloc (.cells #[] 43)) #[] 0 (Nat.le_refl _) (by unfold maxLen; omega) rfl
  have hb3 : Below w2.heap.size w2 ((w2.alloc (.cells #[] 43)).alloc (.cells #[] 43)) := ((Below.refl _ _).alloc (Nat.le_refl _) _).alloc (by simp) _
  have hpl : ∀ k, pv.ownBlock = some k → k < w2.heap.size := fun k hk => (hx2.jm.2.2.lt k hk).2
  have hR := (show PlyR w ((w2.alloc (.cells #[] 43)).alloc (.cells #[] 43)) n p q 0 pv (.slice none 0 0) sv (.slice (some ⟨w2.heap.size, 0, none⟩) 0 0) (.slice (some ⟨(w2.alloc (.cells #[] 43)).heap.size, 0, none⟩) 0 0) (freshS n) (zeroL 64) (zeroL 64) ⟨#[]⟩ ⟨n, [], 0, 0, 0⟩ [] from
    ⟨hx2.below hb3, rfl, Nat.le_refl _, Nat.le_refl _, mrow_new (l := []) (hr1.alloc _) hN2 hpl, mrow_new (l := []) hr2 (Nat.le_trans hN2 (by simp)) (fun k hk => Nat.lt_of_lt_of_le (hpl k hk) (by simp)), (fun x hx => by cases hx), (fun x hx => by cases hx), HB2.out.trans (hb3.mono hN2)⟩)
  rw [show (w2.alloc (.cells #[] 43)).heap.size = w2.heap.size + 1 by simp] at hR
  have HR0 := Lib.hid hR
  clear co hx2 hpv2 hb2 hN2 hr1 hr2 hb3 hpl hR
  go_upto_region 5 with fail
  generalize (w2.alloc (.cells #[] 43)).alloc (.cells #[] 43) = w3 at *
  generalize w2.heap.size = X2 at *
  go_wp2_with fail
  refine Calls.mono (awake07 _) ?_
  rintro e w4 ⟨rfl, hb4⟩
  have hR4 := HR0.out.below' hb4
  have HS := Lib.hid (show PlyE w w4 n q 0 p (.slice (some ⟨X2, 0, none⟩) 0 0) (.slice (some ⟨X2 + 1, 0, none⟩) 0 0) from ⟨_, _, _, _, _, _, _, _, _, hR4⟩)
  clear hb4 hR4 HR0 HB1 HB2
  go_wp2_with fail
  go_loopw [8, 9, 10, 11, 12] (fun jv ev nv uv iv wr => ∃ (i p : Nat) (nv' uv' : Value), i ≤ len ∧ i ≤ 60 ∧ jv = .pointer (some ⟨p, 0, none⟩) ∧ iv = .int .i64 i ∧ nv' = nv ∧ uv' = uv ∧ Hid (PlyE w wr n q i p nv' uv')) (fun _ _ _ _ iv _ => 60 - (intOf iv).toNat)
  case atStart => exact ⟨0, p, _, _, by omega, by omega, rfl, rfl, rfl, rfl, HS⟩
  case round =>
    obtain ⟨i, p, nv, uv, hi1, hi2, rfl, rfl, rfl, rfl, HR⟩ := hrel
    clear HS
    by_cases hin : i < len ∧ i < 60
    · obtain ⟨hil, hi60⟩ := hin
      obtain ⟨bb, off, rfl, hbl, hel⟩ := HEL.out.resolve_left (by omega)
      obtain ⟨tw, tk, tl, tu, c0, c1, c2, c3, w0, w1', w2', w3'⟩ := actJ_cells (hel i hil)
      obtain ⟨pv, lv, sv, S, a, b, last, s, os, hp⟩ := HR.out
      have hbw := hp.below
      rw [← hbw.cell (p := ⟨bb, off + i * 4, none⟩) hbl] at c0
      rw [← hbw.cell (p := ⟨bb, off + i * 4 + 1, none⟩) hbl] at c1
      rw [← hbw.cell (p := ⟨bb, off + i * 4 + 2, none⟩) hbl] at c2
      rw [← hbw.cell (p := ⟨bb, off + i * 4 + 3, none⟩) hbl] at c3
      have hili : (i : Int) < (len : Int) := by omega
      have hi6i : (i : Int) < 60 := by omega
      have hbA := (Below.refl wr.heap.size wr).alloc (Nat.le_refl _) (.cells #[.int .i64 tw, .int .i64 tk, .int .i64 tl, .int .u64 tu] 34)
      have yA := heap_alloc_self wr (.cells #[.int .i64 tw, .int .i64 tk, .int .i64 tl, .int .u64 tu] 34)
      have HP := Lib.hid (hp.below' hbA)
      have cK := fun w => lkey tk w w1'
      have HWF := Lib.hid (And.intro w1' (And.intro w2' w3'))
      clear hel w0 w1' w2' w3' hbw hp hbA HR
      go_upto_region 11 with fail
      generalize wr.alloc (.cells #[.int .i64 tw, .int .i64 tk, .int .i64 tl, .int .u64 tu] 34) = wA at *
      obtain ⟨A, hA⟩ : ∃ A, wr.heap.size = A := ⟨_, rfl⟩
      rw [hA] at yA
      try simp only [hA]
      have a1 : wA.cell? ⟨A, 1, none⟩ = some (.int .i64 tk) := by simp [World.cell?, yA]
      have HYA := Lib.hid yA
      clear c0 c1 c2 c3 yA hA
      go_wp2_with fail
      refine Calls.mono (cK _) ?_
      rintro e w5 ⟨K, rfl, hK2, hb5⟩
      have yA5 := below_at hb5 (lt_heap HYA.out) HYA.out
      have HP5 := Lib.hid (HP.out.below' hb5)
      have HYA5 := Lib.hid yA5
      have a0 : w5.cell? ⟨A, 0, none⟩ = some (.int .i64 tw) := by simp [World.cell?, yA5]
      obtain ⟨wh, hwh⟩ : ∃ wh : Nat, tw % 8 = (wh : Int) := ⟨(tw % 8).toNat, by omega⟩
      have hm7 := mask7 tw
      rw [hwh] at hm7
      have hwh8 : wh < 8 := by omega
      clear cK a1 yA5 HYA HP hb5 hwh
      go_upto_block 2 with fail
      go_cut [8, 9, 10, 11] (fun jv ev nx ux wx => ∃ (p' : Nat) (nv' uv' : Value), jv = .pointer (some ⟨p', 0, none⟩) ∧ nv' = nx ∧ uv' = ux ∧ Hid (PlyE w wx n q (i + 1) p' nv' uv'))
      case first =>
        have hcase : wh = 3 ∨ wh = 4 ∨ wh = 5 ∨ wh = 6 ∨ wh = 7 ∨ wh < 3 := by omega
        rcases hcase with rfl | rfl | rfl | rfl | rfl | hw3
        · -- a key has none
          have cd := jdel_some HP5.out.jx K (mayK_two hK2) (by have := HP5.out.later; omega)
          go_wp2_with fail
          refine Calls.mono cd ?_
          rintro e w6 ⟨rfl, pv6, lv6, hx6, hk6⟩
          have hmn := HP5.out.mnow.kept hk6
          have hmu := HP5.out.msure.kept hk6
          have hlen : (nowJ s os).length ≤ 31936 := HP5.out.jx.many.2.2.2.2
          have cw := lwith (SR.owns hmn.1) K ⟨#[]⟩ true (by omega)
          rw [wth_cut HP5.out.jx.srt] at cw
          have H6 := Lib.hid (And.intro hx6 (And.intro hk6 (And.intro hmn hmu)))
          clear cd hx6 hk6 hmn hmu hlen
          go_wp2_with fail
          refine Calls.mono cw ?_
          rintro e w7 ⟨ov, rfl, ho7⟩
          obtain ⟨hx6, hk6, hmn, hmu⟩ := H6.out
          have hgl : (gonS K).size ≤ 100 := by
            rw [gonS_len]
            unfold JO.b
            rw [if_pos rfl]
            simp only [List.length_cons]
            rw [textL_small K (by omega) (by omega)]
            omega
          have hgl2 : (JO.b ⟨K, ⟨#[]⟩, true⟩).length ≤ 100 := by rw [← gonS_len]; exact hgl
          have hN6 : w.heap.size ≤ w6.heap.size := Nat.le_trans HP5.out.below.size hk6.size
          have hb7 : Below w6.heap.size w6 w7 := ho7.2
          have hres : PlyR w w7 n p q (i + 1) pv6 lv6 sv ov uv S a b last s (os ++ [⟨K, ⟨#[]⟩, true⟩]) :=
            ⟨hx6.below hb7, HP5.out.n_, by have := HP5.out.top; omega, by
              rw [lenJ_app, lenJ_one]
              have := HP5.out.later
              omega, by
              rw [nowJ_cut]
              exact mrow_new ho7.1 hN6 (fun k hk => (hx6.jm.2.2.lt k hk).2), hmu.below hb7, by rw [nowJ_cut]; exact okV_cut HP5.out.vals K, HP5.out.vals2, (HP5.out.below.trans hk6.below).trans (hb7.mono hN6)⟩
          have HRES := Lib.hid (show PlyE w w7 n q (i + 1) p ov uv from ⟨_, _, _, _, _, _, _, _, _, hres⟩)
          clear hx6 hk6 hmn hmu hgl hgl2 hN6 hb7 hres ho7 cw H6
          go_wp2_with fail
          go_meet
          exact ⟨p, _, _, rfl, rfl, rfl, HRES⟩
        · -- it is made sure
          have cs := jsync HP5.out.jx (by have := HP5.out.later; omega) (by have := HP5.out.top; omega)
          go_wp2_with fail
          refine Calls.mono cs ?_
          rintro e w6 ⟨rfl, sv6, S6, a6, b6, last6, s6, lv6, hx6, hn6', hnow6, ht6, -, hk6⟩
          have hnow6' : nowJ s6 [] = nowJ s os := hnow6
          have hmn := HP5.out.mnow.kept hk6
          have hres : PlyR w w6 n p q (i + 1) pv lv6 sv6 nv nv S6 a6 b6 last6 s6 [] :=
            ⟨hx6, hn6'.trans HP5.out.n_, by have := HP5.out.top; omega, by simp [lenJ], by rw [hnow6]; exact hmn, by rw [hnow6]; exact hmn, by rw [hnow6]; exact HP5.out.vals, by rw [hnow6]; exact HP5.out.vals, HP5.out.below.trans hk6.below⟩
          have HRES := Lib.hid (show PlyE w w6 n q (i + 1) p nv nv from ⟨_, _, _, _, _, _, _, _, _, hres⟩)
          clear hx6 hn6' hnow6 hnow6' ht6 hk6 hmn hres cs
          go_wp2_with fail
          go_meet
          exact ⟨p, _, _, rfl, rfl, rfl, HRES⟩
        · -- it breaks
          have hm8 := mask7 tl
          obtain ⟨m8, hm8'⟩ : ∃ m8 : Nat, tl % 8 = (m8 : Int) := ⟨(tl % 8).toNat, by omega⟩
          rw [hm8'] at hm8
          have hm88 : m8 < 8 := by omega
          obtain ⟨u, rfl, hu⟩ := wf_u64S HWF.out.2.2
          have a2 : w5.cell? ⟨A, 2, none⟩ = some (.int .i64 tl) := by simp [World.cell?, HYA5.out]
          have a3 : w5.cell? ⟨A, 3, none⟩ = some (.int .u64 u) := by simp [World.cell?, HYA5.out]
          have cb : Calls Tryz.prog 13 #[.pointer (some ⟨p, 0, none⟩), .int .i64 ((m8 : Int) - 1), .int .u64 u] w5 fun e w6 => e = .returned (.tuple #[]) ∧ ∃ sv6 S6 a6 b6 last6 s6, DR w6 w.heap.size q sv6 S6 a6 b6 last6 s6 ∧ s6.n = s.n ∧ s6.top ≤ s.top + 2 ∧ (runJ [] s6.rs = runJ [] s.rs ∨ ((5 : Nat) = 5 ∧ 4 ≤ m8 ∧ runJ [] s6.rs = nowJ s os)) ∧ BK w5 w6 w.heap.size := by
            refine (jbreak HP5.out.jx (by have := HP5.out.later; omega) (by have := HP5.out.top; omega) ((m8 : Int) - 1) u hu).mono ?_
            rintro e w6 ⟨rfl, sv6, S6, a6, b6, last6, s6, g1, g2, g3, g4, g5⟩
            exact ⟨rfl, sv6, S6, a6, b6, last6, s6, g1, g2, g3, g4.imp id (fun h => ⟨rfl, by omega, h.2⟩), g5⟩
          clear hm8'
          go_wp2_with fail
          refine Calls.mono cb ?_
          rintro e w6 ⟨rfl, sv6, S6, a6, b6, last6, s6, hdr6, hn6', ht6, h6, hbk6⟩
          have hmu6 := HP5.out.msure.kept (hbk6.kept pv)
          have hmn6 := HP5.out.mnow.kept (hbk6.kept pv)
          have yA6 := hbk6.tk A _ _ _ HYA5.out (by decide)
          have hN6 : w.heap.size ≤ w6.heap.size := hdr6.pd.dsk.le
          have hbw6 := HP5.out.below.trans hbk6.below
          have co := jopen hdr6
          have H6 := Lib.hid (And.intro hmu6 (And.intro hmn6 (And.intro yA6 (And.intro hN6 (And.intro hbw6 (And.intro hn6' (And.intro ht6 h6)))))))
          clear hmu6 hmn6 yA6 hN6 hbw6 hn6' ht6 h6 hbk6 hdr6 cb a0 a2 a3
          go_wp2_with fail
          refine Calls.mono co ?_
          rintro e w7 ⟨p7, pv7, rfl, hx7, hpv7, hb7⟩
          have hmu7 := mrow_open H6.out.1 hb7 hpv7
          have hmn7 := mrow_open H6.out.2.1 hb7 hpv7
          have yA7 := below_at hb7 (lt_heap H6.out.2.2.1) H6.out.2.2.1
          have hN7 : w.heap.size ≤ w7.heap.size := Nat.le_trans H6.out.2.2.2.1 hb7.size
          have hbw7 := H6.out.2.2.2.2.1.trans (hb7.mono H6.out.2.2.2.1)
          have ca := jall hx7 ⟨#[]⟩
          rw [filter_all] at ca
          have H7 := Lib.hid (And.intro hmu7 (And.intro hmn7 (And.intro yA7 (And.intro hN7 (And.intro hbw7 hx7)))))
          clear hmu7 hmn7 yA7 hN7 hbw7 hx7 hpv7 hb7 co
          go_wp2_with fail
          refine Calls.mono ca ?_
          rintro e w8 ⟨mv, rfl, hown, hb8⟩
          have hx8 := H7.out.2.2.2.2.2.below hb8
          have hmu8 := H7.out.1.below hb8
          have hmn8 := H7.out.2.1.below hb8
          have hmg8 : MRow w8 w.heap.size pv7 mv (nowJ s6 []) := mrow_new hown H7.out.2.2.2.1 (fun k hk => (H7.out.2.2.2.2.2.jm.2.2.lt k hk).2)
          have yA8 := below_at hb8 (lt_heap H7.out.2.2.1) H7.out.2.2.1
          have hbw8 := H7.out.2.2.2.2.1.trans (hb8.mono H7.out.2.2.2.1)
          have hN8 : w.heap.size ≤ w8.heap.size := Nat.le_trans H7.out.2.2.2.1 hb8.size
          have hv6 : okV (nowJ s6 []) := by
            rw [nowJ_nil]
            rcases H6.out.2.2.2.2.2.2.2 with h | ⟨_, _, h⟩
            · rw [h, ← nowJ_nil]; exact HP5.out.vals2
            · rw [h]; exact HP5.out.vals
          obtain ⟨bq, hbq⟩ : ∃ bq, decide (nowJ s6 [] = nowJ s []) = bq := ⟨_, rfl⟩
          have cs := lsame (SR.owns hmg8.1) (SR.owns hmu8.1) hv6.small HP5.out.vals2.small
          rw [hbq] at cs
          have HBQ := Lib.hid hbq
          have H8 := Lib.hid (And.intro hmg8 (And.intro hmn8 (And.intro hx8 (And.intro yA8 (And.intro hbw8 (And.intro hN8 hv6))))))
          clear hx8 hmu8 hmn8 hmg8 yA8 hbw8 hN8 hv6 hbq hown hb8 ca
          go_upto_region 36 with fail
          go_wp2_with fail
          refine Calls.mono cs ?_
          rintro e w9 ⟨rfl, hb9⟩
          have hmg9 := H8.out.1.below hb9
          have hmn9 := H8.out.2.1.below hb9
          have hx9 := H8.out.2.2.1.below hb9
          have yA9 := below_at hb9 (lt_heap H8.out.2.2.2.1) H8.out.2.2.2.1
          have HYA9 := Lib.hid yA9
          have hbw9 := H8.out.2.2.2.2.1.trans (hb9.mono H8.out.2.2.2.2.2.1)
          have hfin : ∀ (_ : True) {wz : World}, Below w9.heap.size w9 wz → PlyE w wz n q (i + 1) p7 mv mv := fun _ wz hbz =>
            ⟨pv7, _, sv6, S6, a6, b6, last6, s6, [], ⟨hx9.below hbz, H6.out.2.2.2.2.2.1.trans HP5.out.n_, by have := H6.out.2.2.2.2.2.2.1; have := HP5.out.top; omega, by simp [lenJ], hmg9.below hbz, hmg9.below hbz, H8.out.2.2.2.2.2.2, H8.out.2.2.2.2.2.2, hbw9.trans (hbz.mono (Nat.le_trans H8.out.2.2.2.2.2.1 hb9.size))⟩⟩
          have H9 := Lib.hid (And.intro hmg9.1 (And.intro hx9 (And.intro hmn9 trivial)))
          clear hmg9 hmn9 hx9 yA9 hbw9 hb9 cs
          rcases H6.out.2.2.2.2.2.2.2 with h6 | ⟨h5, h4, h6⟩
          · have e6 : nowJ s6 [] = nowJ s [] := by rw [nowJ_nil, nowJ_nil]; exact h6
            obtain rfl : bq = true := HBQ.out.symm.trans (decide_eq_true e6)
            have HRES := Lib.hid (hfin trivial (Below.refl _ _))
            clear hfin
            go_wp2_with fail
            go_meet
            exact ⟨p7, _, _, rfl, rfl, rfl, HRES⟩
          · have hk4 : (4 : Int) ≤ (m8 : Int) := by omega
            have e6 : nowJ s6 [] = nowJ s os := by rw [nowJ_nil]; exact h6
            have yA9 := HYA9.out
            have b0 : w9.cell? ⟨A, 0, none⟩ = some (.int .i64 tw) := by simp [World.cell?, yA9]
            have b2 : w9.cell? ⟨A, 2, none⟩ = some (.int .i64 tl) := by simp [World.cell?, yA9]
            have cs2 := lsame (SR.owns H9.out.1) (SR.owns H9.out.2.2.1.1) (by rw [e6]; exact HP5.out.vals.small) HP5.out.vals.small
            rw [decide_eq_true e6] at cs2
            cases bq with
            | true =>
              go_wp2_with fail
              go_meet
              exact ⟨p7, _, _, rfl, rfl, rfl, hfin trivial (Below.refl _ _)⟩
            | false =>
              go_wp2_with fail
              refine Calls.mono cs2 ?_
              rintro e w10 ⟨rfl, hb10⟩
              have HRES := Lib.hid (hfin trivial hb10)
              clear cs2 hb10
              go_wp2_with fail
              go_meet
              exact ⟨p7, _, _, rfl, rfl, rfl, HRES.out⟩
        · -- it is opened anew
          obtain ⟨m8, hm8'⟩ : ∃ m8 : Nat, m8 = 0 := ⟨_, rfl⟩
          have a2 : True := trivial
          have a3 : True := trivial
          have cb : Calls Tryz.prog 14 #[.pointer (some ⟨q, 0, none⟩), .int .u64 0] w5 fun e w6 => e = .returned (.tuple #[]) ∧ ∃ sv6 S6 a6 b6 last6 s6, DR w6 w.heap.size q sv6 S6 a6 b6 last6 s6 ∧ s6.n = s.n ∧ s6.top ≤ s.top + 2 ∧ (runJ [] s6.rs = runJ [] s.rs ∨ ((6 : Nat) = 5 ∧ 4 ≤ m8 ∧ runJ [] s6.rs = nowJ s os)) ∧ BK w5 w6 w.heap.size := by
            have hpd := HP5.out.jx.pd
            refine (dcrash 0 (by omega) w5 w.heap.size q sv _ S [] hpd.dsk (by simp)).mono ?_
            rintro e w6 ⟨rfl, g1, g2⟩
            exact ⟨rfl, sv, S, a, b, last, s, ⟨⟨g1, hpd.s0, hpd.s1, hpd.pair, hpd.small⟩, HP5.out.jx.dx⟩, rfl, by omega, .inl rfl, BK.of_tk g2.below (g2.tk hpd.dsk) (by decide)⟩
          clear hm8'
          go_wp2_with fail
          refine Calls.mono cb ?_
          rintro e w6 ⟨rfl, sv6, S6, a6, b6, last6, s6, hdr6, hn6', ht6, h6, hbk6⟩
          have hmu6 := HP5.out.msure.kept (hbk6.kept pv)
          have hmn6 := HP5.out.mnow.kept (hbk6.kept pv)
          have yA6 := hbk6.tk A _ _ _ HYA5.out (by decide)
          have hN6 : w.heap.size ≤ w6.heap.size := hdr6.pd.dsk.le
          have hbw6 := HP5.out.below.trans hbk6.below
          have co := jopen hdr6
          have H6 := Lib.hid (And.intro hmu6 (And.intro hmn6 (And.intro yA6 (And.intro hN6 (And.intro hbw6 (And.intro hn6' (And.intro ht6 h6)))))))
          clear hmu6 hmn6 yA6 hN6 hbw6 hn6' ht6 h6 hbk6 hdr6 cb a0 a2 a3
          go_wp2_with fail
          refine Calls.mono co ?_
          rintro e w7 ⟨p7, pv7, rfl, hx7, hpv7, hb7⟩
          have hmu7 := mrow_open H6.out.1 hb7 hpv7
          have hmn7 := mrow_open H6.out.2.1 hb7 hpv7
          have yA7 := below_at hb7 (lt_heap H6.out.2.2.1) H6.out.2.2.1
          have hN7 : w.heap.size ≤ w7.heap.size := Nat.le_trans H6.out.2.2.2.1 hb7.size
          have hbw7 := H6.out.2.2.2.2.1.trans (hb7.mono H6.out.2.2.2.1)
          have ca := jall hx7 ⟨#[]⟩
          rw [filter_all] at ca
          have H7 := Lib.hid (And.intro hmu7 (And.intro hmn7 (And.intro yA7 (And.intro hN7 (And.intro hbw7 hx7)))))
          clear hmu7 hmn7 yA7 hN7 hbw7 hx7 hpv7 hb7 co
          go_wp2_with fail
          refine Calls.mono ca ?_
          rintro e w8 ⟨mv, rfl, hown, hb8⟩
          have hx8 := H7.out.2.2.2.2.2.below hb8
          have hmu8 := H7.out.1.below hb8
          have hmn8 := H7.out.2.1.below hb8
          have hmg8 : MRow w8 w.heap.size pv7 mv (nowJ s6 []) := mrow_new hown H7.out.2.2.2.1 (fun k hk => (H7.out.2.2.2.2.2.jm.2.2.lt k hk).2)
          have yA8 := below_at hb8 (lt_heap H7.out.2.2.1) H7.out.2.2.1
          have hbw8 := H7.out.2.2.2.2.1.trans (hb8.mono H7.out.2.2.2.1)
          have hN8 : w.heap.size ≤ w8.heap.size := Nat.le_trans H7.out.2.2.2.1 hb8.size
          have hv6 : okV (nowJ s6 []) := by
            rw [nowJ_nil]
            rcases H6.out.2.2.2.2.2.2.2 with h | ⟨_, _, h⟩
            · rw [h, ← nowJ_nil]; exact HP5.out.vals2
            · rw [h]; exact HP5.out.vals
          obtain ⟨bq, hbq⟩ : ∃ bq, decide (nowJ s6 [] = nowJ s []) = bq := ⟨_, rfl⟩
          have cs := lsame (SR.owns hmg8.1) (SR.owns hmu8.1) hv6.small HP5.out.vals2.small
          rw [hbq] at cs
          have HBQ := Lib.hid hbq
          have H8 := Lib.hid (And.intro hmg8 (And.intro hmn8 (And.intro hx8 (And.intro yA8 (And.intro hbw8 (And.intro hN8 hv6))))))
          clear hx8 hmu8 hmn8 hmg8 yA8 hbw8 hN8 hv6 hbq hown hb8 ca
          go_upto_region 36 with fail
          go_wp2_with fail
          refine Calls.mono cs ?_
          rintro e w9 ⟨rfl, hb9⟩
          have hmg9 := H8.out.1.below hb9
          have hmn9 := H8.out.2.1.below hb9
          have hx9 := H8.out.2.2.1.below hb9
          have yA9 := below_at hb9 (lt_heap H8.out.2.2.2.1) H8.out.2.2.2.1
          have HYA9 := Lib.hid yA9
          have hbw9 := H8.out.2.2.2.2.1.trans (hb9.mono H8.out.2.2.2.2.2.1)
          have hfin : ∀ (_ : True) {wz : World}, Below w9.heap.size w9 wz → PlyE w wz n q (i + 1) p7 mv mv := fun _ wz hbz =>
            ⟨pv7, _, sv6, S6, a6, b6, last6, s6, [], ⟨hx9.below hbz, H6.out.2.2.2.2.2.1.trans HP5.out.n_, by have := H6.out.2.2.2.2.2.2.1; have := HP5.out.top; omega, by simp [lenJ], hmg9.below hbz, hmg9.below hbz, H8.out.2.2.2.2.2.2, H8.out.2.2.2.2.2.2, hbw9.trans (hbz.mono (Nat.le_trans H8.out.2.2.2.2.2.1 hb9.size))⟩⟩
          have H9 := Lib.hid (And.intro hmg9.1 (And.intro hx9 (And.intro hmn9 trivial)))
          clear hmg9 hmn9 hx9 yA9 hbw9 hb9 cs
          rcases H6.out.2.2.2.2.2.2.2 with h6 | ⟨h5, h4, h6⟩
          · have e6 : nowJ s6 [] = nowJ s [] := by rw [nowJ_nil, nowJ_nil]; exact h6
            obtain rfl : bq = true := HBQ.out.symm.trans (decide_eq_true e6)
            have HRES := Lib.hid (hfin trivial (Below.refl _ _))
            clear hfin
            go_wp2_with fail
            go_meet
            exact ⟨p7, _, _, rfl, rfl, rfl, HRES⟩
          · exfalso
            exact absurd h5 (by decide)
        · -- all that begin so
          obtain ⟨na, nc, rfl, hnc1, hnc2⟩ := (SR.owns HP5.out.mnow.1).form
          have hlen : (nowJ s os).length ≤ 31936 := HP5.out.jx.many.2.2.2.2
          obtain ⟨l, hle⟩ : ∃ l, nowJ s os = l := ⟨_, rfl⟩
          have hsr : SR w5 (.slice na (nowJ s os).length nc) 2 (nowJ s os).length (pCells (nowJ s os)) := SR.owns HP5.out.mnow.1
          have hvl := HP5.out.vals
          rw [hle] at hnc1 hlen hsr hvl
          obtain ⟨m, hm⟩ : ∃ m, l.length = m := ⟨_, rfl⟩
          rw [hm] at hnc1 hlen hsr
          unfold maxLen at hnc2
          have HSR := Lib.hid hsr
          have HL := Lib.hid (And.intro hle (And.intro hm hvl))
          obtain ⟨Q1, hQ1⟩ : ∃ Q1, K.extract 0 1 = Q1 := ⟨_, rfl⟩
          have HQ1 := Lib.hid (And.intro hQ1 hK2)
          have hK1 : 1 ≤ K.size := by omega
          have hK1i : (1 : Int) ≤ (K.size : Int) := by omega
          obtain ⟨i0, hi, hz0, hz1, hz2⟩ := info_parts (show (Tryz.prog.info? 43).map (fun i => (i.zero, i.size, i.bytes)) = some (some (.agg #[.string ByteArray.empty, .string ByteArray.empty]), 2, 32) by kernel_rfl)
          have ho0 : OutR w5 (w5.alloc (.cells #[] 43)) (.slice (some ⟨w5.heap.size, 0, none⟩) 0 0) [] :=
            ⟨World.ownsRow_lit (base := w5.heap.size) w5 #[] 0 (Nat.le_refl _) (by unfold maxLen; omega) rfl, (Below.refl _ _).alloc (Nat.le_refl _) _⟩
          have HO := Lib.hid ho0
          have hmm : (nowJ s os).length = m := by rw [hle]; exact hm
          clear hle hm hvl hsr ho0
          go_upto_region 41 with fail
          try simp only [hmm]
          generalize w5.alloc (.cells #[] 43) = w6 at *
          go_wp2_with fail
          go_loopw [16, 17] (fun ow iv wx => ∃ (x : Nat) (ov : Value), x ≤ m ∧ iv = .int .i64 x ∧ ov = ow ∧ Hid (OutR w5 wx ov ((l.take x).filter (preJ Q1)))) (fun _ iv _ => m - (intOf iv).toNat)
          case atStart => exact ⟨0, _, by omega, rfl, rfl, HO⟩
          case round =>
            obtain ⟨x, ov, hx1, rfl, rfl, HX⟩ := hrel
            by_cases hlt : x < m
            · have hxl : x < l.length := by rw [HL.out.2.1]; exact hlt
              have hxx : l[x]? = some l[x] := List.getElem?_eq_getElem hxl
              have htx : l.take (x + 1) = l.take x ++ [l[x]] := List.take_succ_eq_append_getElem hxl
              have hvx := HL.out.2.2 _ (List.getElem_mem hxl)
              generalize l[x] = y at *
              have hlti : (x : Int) < (m : Int) := by omega
              obtain ⟨b0, o0, rfl, -, -, r⟩ := sr_block_J (HSR.out.below HX.out.2) (by omega)
              obtain ⟨r0, r1⟩ := r x y hxx
              have hfx : (l.take (x + 1)).filter (preJ Q1) = (l.take x).filter (preJ Q1) ++ (if preJ Q1 y = true then [y] else []) := by
                rw [htx, List.filter_append, List.filter_cons, List.filter_nil]
              have hpe : preJ Q1 y = decide (y.k.extract 0 1 = K.extract 0 1) := by rw [← HQ1.out.1]; exact pre_ext y K (by omega) (by omega)
              have hol : ((l.take x).filter (preJ Q1)).length ≤ x := Nat.le_trans (List.length_filter_le _ _) (by rw [List.length_take]; omega)
              generalize (l.take x).filter (preJ Q1) = fl at *
              obtain ⟨Y, hY⟩ : ∃ Y, y.k = Y := ⟨_, rfl⟩
              obtain ⟨V, hV⟩ : ∃ V, y.v = V := ⟨_, rfl⟩
              rw [hY] at r0 hpe
              rw [hV] at r1
              have hY1 : 1 ≤ Y.size := by rw [← hY]; omega
              have hY1i : (1 : Int) ≤ (Y.size : Int) := by omega
              obtain ⟨P1, hP1⟩ : ∃ P1, Y.extract 0 1 = P1 := ⟨_, rfl⟩
              rw [hP1, HQ1.out.1] at hpe
              have hQe := HQ1.out.1
              have HFX := Lib.hid (And.intro hfx (And.intro hY (And.intro hV hvx)))
              have hol2 : fl.length ≤ 40000 := by omega
              clear r hxx htx hvx hfx hol
              by_cases hPQ : P1 = Q1
              · have e1 : (P1.toList == Q1.toList) = true := by rw [hPQ]; simp
                have hpt : preJ Q1 y = true := by rw [hpe]; exact decide_eq_true hPQ
                have HPT := Lib.hid hpt
                have r0' : wr.drew.cell? ⟨b0, o0 + x * 2, none⟩ = some (.string Y) := r0
                have r1' : wr.drew.cell? ⟨b0, o0 + x * 2 + 1, none⟩ = some (.string V) := r1
                have hOd : OutR w5 wr.drew ov fl := ⟨HX.out.1, HX.out.2.drew⟩
                have hlit := lit_pair wr.drew y
                rw [hY, hV] at hlit
                have hownA := hOd.1.alloc (.cells #[.string Y, .string V] 43)
                have hN : w5.heap.size ≤ (wr.drew.alloc (.cells #[.string Y, .string V] 43)).heap.size := Nat.le_trans hOd.2.size (by simp)
                have HOD := Lib.hid hOd
                clear hpt hpe hPQ hOd
                go_upto_region 44 with fail
                go_region
                go_wp2_with (at_builtin; refine wp_app Tryz.underlying30 hi hz0 hz1 hz2 rfl (by decide) rfl _ _ rfl w5.heap.size _ fl.length (pCells fl) rfl hownA _ 1 [.string Y, .string V] rfl hlit (by simp [Value.oneCell']) (by unfold maxLen; omega) (by omega) hN ?_)
                intro v' w7 hown3 hgrow
                have hO := outR_app (x := y) HOD.out (by rw [hY, hV]; exact hown3) (by rw [hY, hV]; exact hgrow)
                have HO7 := Lib.hid (show OutR w5 w7 v' ((l.take (x + 1)).filter (preJ Q1)) by rw [HFX.out.1, if_pos HPT.out]; exact hO)
                clear hown3 hgrow hO hownA hlit hN
                go_wp2_with fail
                go_roundw
                case rel => first | exact ⟨x + 1, _, by omega, by go_num, rfl, HO7⟩ | (refine ⟨_, _, _, _, _, _, _, _, _, _, _, _, _, _, _, _, _, _, _, _, _, _, _, _, ⟨x + 1, v', by omega, ?_, rfl, HO7⟩, rfl⟩; go_num)
                case measure => simp [intOf]; omega
              · have e1 : (P1.toList == Q1.toList) = false := by
                  rw [beq_eq_false_iff_ne]
                  intro e
                  rw [ByteArray.toList_eq, ByteArray.toList_eq] at e
                  exact hPQ (str_ext e)
                have hpt : ¬ preJ Q1 y = true := by rw [hpe, decide_eq_false hPQ]; simp
                have HO7 := Lib.hid (show OutR w5 wr.drew ov ((l.take (x + 1)).filter (preJ Q1)) by rw [HFX.out.1, if_neg hpt, List.append_nil]; exact ⟨HX.out.1, HX.out.2.drew⟩)
                clear hpt hpe hPQ
                go_upto_region 44 with fail
                go_region
                go_wp2_with fail
                go_roundw
                case rel => exact ⟨x + 1, _, by omega, by go_num, rfl, HO7⟩
                case measure => simp [intOf]; omega
            · obtain rfl : x = m := by omega
              have htake : l.take x = l := List.take_of_length_le (by rw [HL.out.2.1]; omega)
              rw [htake] at HX
              have hp7 := HP5.out.below' HX.out.2
              have ca := jall hp7.jx Q1
              have hs1 : smallP (l.filter (preJ Q1)) := fun z hz => HL.out.2.2.small z (List.mem_filter.1 hz).1
              rw [HL.out.1] at ca
              have HP7 := Lib.hid hp7
              have hQe := HQ1.out.1
              have HS1 := Lib.hid hs1
              clear hp7 hs1 htake
              go_wp2_with fail
              refine Calls.mono ca ?_
              rintro e w7 ⟨mv, rfl, hown, hb7⟩
              have cs := lsame (SR.owns hown) ((SR.owns HX.out.1).below hb7) HS1.out HS1.out
              rw [decide_eq_true rfl] at cs
              have HB7 := Lib.hid hb7
              clear ca hown hb7
              go_wp2_with fail
              refine Calls.mono cs ?_
              rintro e w8 ⟨rfl, hb8⟩
              have h0 := (HP7.out.below' HB7.out).below' hb8
              have HRES := Lib.hid (show PlyE w w8 n q (i + 1) p (.slice na (nowJ s os).length nc) uv from ⟨_, _, _, _, _, _, _, _, _, ⟨h0.jx, h0.n_, by have := h0.top; omega, by have := h0.later; omega, h0.mnow, h0.msure, h0.vals, h0.vals2, h0.below⟩⟩)
              clear cs hb8 h0
              go_wp2_with fail
              go_meet
              refine ⟨p, _, _, rfl, ?_, rfl, HRES⟩
              first | rfl | (rw [hmm])
        · -- a key has a value
          have hn3 : ((wh : Int) == 3) = false := by simp; omega
          have hn4 : ((wh : Int) == 4) = false := by simp; omega
          have hn5 : ((wh : Int) == 5) = false := by simp; omega
          have hn6' : ((wh : Int) == 6) = false := by simp; omega
          have hn7 : ((wh : Int) == 7) = false := by simp; omega
          have a1 : w5.cell? ⟨A, 1, none⟩ = some (.int .i64 tk) := by simp [World.cell?, HYA5.out]
          have a2 : w5.cell? ⟨A, 2, none⟩ = some (.int .i64 tl) := by simp [World.cell?, HYA5.out]
          have cV := fun z w => lvalue z tl w
          go_wp2_with fail
          refine Calls.mono (cV _ _) ?_
          rintro e w6 ⟨V, rfl, hV1, hV2, hb6⟩
          have HP6 := Lib.hid (HP5.out.below' hb6)
          have hlen : (nowJ s os).length ≤ 31936 := HP5.out.jx.many.2.2.2.2
          have cw := lwith (SR.owns HP6.out.mnow.1) K V false (by omega)
          rw [wth_set HP5.out.jx.srt] at cw
          have HV := Lib.hid (And.intro hV1 hV2)
          clear cV hb6 hlen a0 a1 a2 hV1 hV2
          go_wp2_with fail
          refine Calls.mono cw ?_
          rintro e w7 ⟨ov, rfl, ho7⟩
          have HP7 := Lib.hid (HP6.out.below' ho7.2)
          have hvs : okV (setK (nowJ s os) K V) := okV_set HP5.out.vals hK2 HV.out.1 HV.out.2
          have hsz := okV_bytes hvs
          have hsl := len_sizeJ (setK (nowJ s os) K V)
          have hre : (recS ⟨K, V⟩).size = 5 + K.size + V.size := recS_exact ⟨K, V⟩ (by show 1 ≤ K.size; omega) (by show K.size ≤ 255; omega) HV.out.1 (by show V.size ≤ 255; have := HV.out.2; omega)
          have hle : sizeJ (setK (nowJ s os) K V) ≤ sizeJ (nowJ s os) + (recS ⟨K, V⟩).size := by
            rcases set_sizes HP5.out.jx.srt K V with ⟨_, e2⟩ | ⟨x, _, _, e2, _⟩ <;> omega
          have hmany := HP5.out.jx.many.2.2.2.1
          have hV2 := HV.out.2
          have hZb : sizeJ (setK (nowJ s os) K V) ≤ 40000 := by omega
          have cb := lbytes (SR.owns ho7.1) (fun x hx => ⟨by have := hvs x hx; omega, by have := hvs x hx; omega⟩) (by omega)
          rw [hsz] at cb
          obtain ⟨Z, hZ⟩ : ∃ Z, sizeJ (setK (nowJ s os) K V) = Z := ⟨_, rfl⟩
          obtain ⟨R, hR⟩ : ∃ R, 64 * manyN s.n = R := ⟨_, rfl⟩
          rw [hZ] at cb
          have hmd : manyN s.n = (n - 2) / 2 := by rw [HP5.out.n_]; rfl
          have hquo : ((n : Int) - 2) / 2 = ((manyN s.n : Nat) : Int) := by rw [hmd]; omega
          have hRi : ((manyN s.n : Nat) : Int) * 64 = (R : Int) := by omega
          have hmb : manyN s.n ≤ 10 := by rw [hmd]; omega
          have hZi : (Z : Int) ≤ 40000 := by omega
          obtain ⟨mm, hmm⟩ : ∃ mm, manyN s.n = mm := ⟨_, rfl⟩
          have HMM := Lib.hid hmm
          rw [hmm] at hR hquo hRi hmb
          have H7 := Lib.hid (And.intro ho7 (And.intro hvs (And.intro hZ (And.intro hR hre))))
          obtain ⟨fits, hfits⟩ : ∃ fits, decide (Z ≤ R) = fits := ⟨_, rfl⟩
          have hfi : decide ((Z : Int) ≤ (R : Int)) = fits := by rw [← hfits]; congr 1; apply propext; omega
          have HFI := Lib.hid hfits
          clear ho7 hvs hsz hsl hre hle hmany hV2 hZb hZ hR hmd cw hfits hmm
          go_wp2_with fail
          refine Calls.mono cb ?_
          rintro e w8 ⟨rfl, hb8⟩
          have HP8 := Lib.hid (HP7.out.below' hb8)
          have hov8 := owns_below H7.out.1.1 hb8
          have hmo8 : MRow w8 w.heap.size pv ov (setK (nowJ s os) K V) := mrow_new hov8 HP6.out.below.size HP6.out.pvlt
          have cp := jput_some HP8.out.jx K V (mayK_two hK2) (by have := HV.out.2; omega) (by have := HP5.out.later; omega)
          rw [H7.out.2.2.1, HMM.out, H7.out.2.2.2.1] at cp
          have HMO := Lib.hid hmo8
          clear hb8 hov8 hmo8 cb
          go_wp2_with fail
          refine Calls.mono cp ?_
          rintro e w9 ⟨r, rfl, h1, h2⟩
          cases fits with
          | true =>
            obtain ⟨rfl, pv9, lv9, hx9, hk9⟩ := h1 (of_decide_eq_true HFI.out)
            have hlj : (JO.b ⟨K, V, false⟩).length ≤ 100 := by
              have e := recS_len ⟨K, V⟩
              have h3 := H7.out.2.2.2.2
              have e2 : (recS ⟨K, V⟩).size = (JO.b ⟨K, V, false⟩).length := e
              have h4 := HV.out.2
              omega
            have hres : PlyR w w9 n p q (i + 1) pv9 lv9 sv ov uv S a b last s (os ++ [⟨K, V, false⟩]) :=
              ⟨hx9, HP5.out.n_, by have := HP5.out.top; omega, by
                rw [lenJ_app, lenJ_one]
                have := HP5.out.later
                omega, by rw [nowJ_set]; exact HMO.out.kept hk9, HP8.out.msure.kept hk9, by rw [nowJ_set]; exact H7.out.2.1, HP5.out.vals2, HP8.out.below.trans hk9.below⟩
            have HRES := Lib.hid (show PlyE w w9 n q (i + 1) p ov uv from ⟨_, _, _, _, _, _, _, _, _, hres⟩)
            have hZR : Z ≤ R := of_decide_eq_true HFI.out
            have hZRd : decide (Z ≤ R) = true := HFI.out
            clear hx9 hk9 hlj hres cp h1 h2
            go_wp2_with fail
            go_meet
            exact ⟨p, _, _, rfl, rfl, rfl, HRES⟩
          | false =>
            obtain ⟨rfl, hb9⟩ := h2 (of_decide_eq_false HFI.out)
            have h0 := HP8.out.below' hb9
            have HRES := Lib.hid (show PlyE w w9 n q (i + 1) p nv uv from ⟨_, _, _, _, _, _, _, _, _, ⟨h0.jx, h0.n_, by have := h0.top; omega, by have := h0.later; omega, h0.mnow, h0.msure, h0.vals, h0.vals2, h0.below⟩⟩)
            have hZR : ¬ Z ≤ R := of_decide_eq_false HFI.out
            have hZRd : decide (Z ≤ R) = false := HFI.out
            clear cp h1 h2 hb9 h0
            go_wp2_with fail
            go_meet
            exact ⟨p, _, _, rfl, rfl, rfl, HRES⟩
      case rest =>
        obtain ⟨p', nv6, uv6, rfl, rfl, rfl, HE⟩ := hcut
        obtain ⟨pv6, lv6, sv6, S6, a6, b6, last6, s6, os6, hp6⟩ := HE.out
        have HP6 := Lib.hid hp6
        have ca := jall hp6.jx ⟨#[]⟩
        rw [filter_all] at ca
        clear hp6
        go_wp2_with fail
        refine Calls.mono ca ?_
        rintro e w7 ⟨mv, rfl, hown, hb7⟩
        have hp7 := HP6.out.below' hb7
        have cs := lsame (SR.owns hown) (SR.owns hp7.mnow.1) HP6.out.vals.small HP6.out.vals.small
        rw [decide_eq_true rfl] at cs
        have HP7 := Lib.hid hp7
        clear ca hown hb7 hp7
        go_wp2_with fail
        refine Calls.mono cs ?_
        rintro e w8 ⟨rfl, hb8⟩
        have hp8 := HP7.out.below' hb8
        have HRES := Lib.hid (show PlyE w w8 n q (i + 1) p' nv6 uv6 from ⟨_, _, _, _, _, _, _, _, _, hp8⟩)
        clear cs hb8 hp8
        go_wp2_with fail
        go_roundw
        case rel => exact ⟨i + 1, p', _, _, by omega, by omega, rfl, by go_num, rfl, rfl, HRES⟩
        case measure => simp [intOf]; omega
    · obtain ⟨pv, lv, sv, S, a, b, last, s, os, hp⟩ := HR.out
      have HB := Lib.hid hp.below
      clear hp
      by_cases hc1 : i < len
      · have k1 : (i : Int) < (len : Int) := by omega
        have k2 : ¬ (i : Int) < 60 := by omega
        go_wp2_with fail
        go_returns
        exact ⟨rfl, HB.out⟩
      · have k1 : ¬ (i : Int) < (len : Int) := by omega
        go_wp2_with fail
        go_returns
        exact ⟨rfl, HB.out⟩
end Go.Proofs.YtgnnijpfkgmomaaGreatDoor
