/-
  PlanParts.
-/
import Derived.Test.YtjpnbicnaeaacaaPlanC
namespace Go.Proofs.Ytjpnbicnaeaacaa
open Go.RowKit
set_option linter.unusedVariables false
set_option linter.unusedSimpArgs false

theorem zero_there {wr W wz : World} {B : Nat} (hb : Below B W wz) (hB : wr.heap.size < B) (hW : W.heap = (wr.alloc (.cells #[.int .i64 0, .int .i64 0, .int .i64 0, .string ⟨#[]⟩, .bool false] 37)).heap) :
    wz.heap[wr.heap.size]? = some (.cells #[.int .i64 0, .int .i64 0, .int .i64 0, .string ⟨#[]⟩, .bool false] 37) :=
  below_at hb hB (by rw [hW]; exact heap_alloc_self wr _)
/-- x is made -/
def MadeAt (wr : World) (p : Value) (wx : World) : Prop := ∃ P a, p = .pointer (some ⟨P, 0, none⟩) ∧ AskV.ok a ∧ wx.heap[P]? = some (.cells #[.int .i64 a.W, .int .i64 a.A, .int .i64 a.L, .string a.D, .bool a.S] 37) ∧ wr.heap.size ≤ P ∧ Below wr.heap.size wr wx
theorem made_a {wr wz : World} {W A L : Int} {D : ByteArray} {S : Bool} (hok : AskV.ok ⟨W, A, L, D, S⟩) (hb : Below wr.heap.size wr wz) : MadeAt wr (.pointer (some ⟨wz.heap.size, 0, none⟩)) (wz.alloc (.cells #[.int .i64 W, .int .i64 A, .int .i64 L, .string D, .bool S] 37)) :=
  ⟨_, ⟨W, A, L, D, S⟩, rfl, hok, heap_alloc_self _ _, hb.size, hb.alloc hb.size _⟩
theorem made_b {wr wz : World} {W A L : Int} {D : ByteArray} {S : Bool} (hok : AskV.ok ⟨W, A, L, D, S⟩) (hb : Below wr.heap.size wr wz) (hz : wz.heap[wr.heap.size]? = some (.cells #[.int .i64 0, .int .i64 0, .int .i64 0, .string ⟨#[]⟩, .bool false] 37)) :
    MadeAt wr (.pointer (some ⟨wr.heap.size, 0, none⟩)) (((((wz.setCell ⟨wr.heap.size, 0, none⟩ (.int .i64 W)).setCell ⟨wr.heap.size, 1, none⟩ (.int .i64 A)).setCell ⟨wr.heap.size, 2, none⟩ (.int .i64 L)).setCell ⟨wr.heap.size, 3, none⟩ (.string D)).setCell ⟨wr.heap.size, 4, none⟩ (.bool S)) :=
  ⟨_, ⟨W, A, L, D, S⟩, rfl, hok, heap_set_self (heap_set_self (heap_set_self (heap_set_self (heap_set_self hz 0 _) 1 _) 2 _) 3 _) 4 _, Nat.le_refl _, ((((hb.setCell (Nat.le_refl _) _).setCell (Nat.le_refl _) _).setCell (Nat.le_refl _) _).setCell (Nat.le_refl _) _).setCell (Nat.le_refl _) _⟩
theorem made_below {wr W wz : World} {o : Obj} (hb : Below W.heap.size W wz) (hW : W = (wr.alloc o).drew) : Below wr.heap.size wr wz := by
  subst hW
  have h1 := below_of_drew hb
  exact ((Below.refl wr.heap.size wr).alloc (Nat.le_refl _) o).trans (h1.mono (by show wr.heap.size ≤ (wr.alloc o).heap.size; simp))
theorem ask_at {w : World} {b off : Nat} {ys : List Value} (hl : ys.length = 5) (hc : ∀ (j : Nat) u, ys[j]? = some u → w.cell? ⟨b, off + j, none⟩ = some u) (hf : Fits w (.two (.int .i64) (.two (.int .i64) (.two (.int .i64) (.two .str (.two .bool .unit))))) ys) :
    ∃ W A L D S, AskV.ok ⟨W, A, L, D, S⟩ ∧ w.cell? ⟨b, off, none⟩ = some (.int .i64 W) ∧ w.cell? ⟨b, off + 1, none⟩ = some (.int .i64 A) ∧ w.cell? ⟨b, off + 2, none⟩ = some (.int .i64 L) ∧ w.cell? ⟨b, off + 3, none⟩ = some (.string D) ∧ w.cell? ⟨b, off + 4, none⟩ = some (.bool S) := by
  obtain ⟨W, A, L, D, S, he, h1, h2, h3, h4⟩ := fits_ask (c := ys.toArray) (by simpa using hf)
  have e : ys = [.int .i64 W, .int .i64 A, .int .i64 L, .string D, .bool S] := by
    have := congrArg Array.toList he
    simpa [askA] using this
  subst e
  exact ⟨W, A, L, D, S, ⟨h1, h2, h3, h4⟩, hc 0 _ rfl, hc 1 _ rfl, hc 2 _ rfl, hc 3 _ rfl, hc 4 _ rfl⟩
theorem ainfo : (Try.prog.info? 37).map (fun i => (i.zero, i.size, i.bytes)) = some (some (.agg #[.int .i64 0, .int .i64 0, .int .i64 0, .string ⟨#[]⟩, .bool false]), 5, 48) := by kernel_rfl
structure PlRel (F d : Int) (N : Nat) (xs : List AskV) (v : Value) (w2 wr : World) : Prop where
  own : wr.ownsRow N 37 5 v xs.length (asksC xs)
  ok : ∀ x ∈ xs, x.ok
  bel : Below N w2 wr
  le : N ≤ wr.heap.size
theorem plrel_step {F d : Int} {N : Nat} {xs : List AskV} {a : AskV} {v v' : Value} {w2 wr w4 w5 : World} {o : Obj} (h : PlRel F d N xs v w2 wr) (h34 : Below wr.heap.size wr w4) (ha : a.ok)
    (ho : w5.ownsRow N 37 5 v' (xs.length + 1) (asksC xs ++ a.cells)) (hg : (w4.alloc o).grownBy w5 v.ownBlock) : PlRel F d N (xs ++ [a]) v' w2 w5 := by
  have h35 : Below wr.heap.size wr (w4.alloc o) := h34.alloc h34.size o
  have hb := h.bel.trans (h35.mono h.le)
  have hb5 := below_app hb hg (owns_below h.own h35) (Nat.le_refl _) (Nat.le_trans h.le h35.size)
  refine ⟨by rw [asksC_snoc, List.length_append]; exact ho, fun x hx => ?_, hb5, Nat.le_trans (Nat.le_trans h.le h35.size) hg.size⟩
  rcases List.mem_append.1 hx with hx | hx
  · exact h.ok x hx
  · rw [List.mem_singleton.1 hx]; exact ha
set_option maxHeartbeats 12800000 in
set_option maxRecDepth 100000 in
theorem planparts_law (a : Option Addr) (len cap : Nat) (c : Array Value) (k : Int) (w : World) (hf : Fits w (.slice (.two (.int .i64) (.two (.int .i64) (.two (.int .i64) (.two .str (.two .bool .unit)))))) [.slice a len cap]) (hv : Fits w (.two (.int .i64) (.two (.int .i64) (.two (.int .i64) .unit))) c.toList) (hk : (Lit.int .i64 k).wf = true) :
    Calls Try.prog 6 #[.slice a len cap, .agg c, .int .i64 k] w fun e w' => e = .returned (.bool true) ∧ Below w.heap.size w w' := by
  obtain ⟨i0, hi, hz0, hz1, hz2⟩ := info_parts ainfo
  obtain ⟨hlc, hcm, hcell⟩ := hf.slice
  unfold maxLen at hcm
  obtain ⟨V, d, E, rfl⟩ : ∃ V d E, c = #[.int .i64 V, .int .i64 d, .int .i64 E] := by
    obtain ⟨x0, y0, e0, ⟨V, rfl, hW⟩, x1, y1, rfl, ⟨d, rfl, hA⟩, x2, y2, rfl, ⟨E, rfl, hL⟩, rfl⟩ := hv
    exact ⟨V, d, E, by apply Array.toList_inj.1; rw [e0]; rfl⟩
  have hm : bits .and .i64 V 63 = V % 64 := mask_mod V 6 63 (by decide) (by decide)
  obtain ⟨F, hF⟩ : ∃ F, V % 64 = F := ⟨_, rfl⟩
  rw [hF] at hm
  have hF0 : 0 ≤ F := by omega
  have hF1 : F ≤ 63 := by omega
  have t := two_new w (.cells #[.int .i64 V, .int .i64 d, .int .i64 E] 50) (.cells #[.int .i64 F, .int .i64 d, .int .i64 5] 50)
  have hb2 : Below w.heap.size w ((w.alloc (.cells #[.int .i64 V, .int .i64 d, .int .i64 E] 50)).alloc (.cells #[.int .i64 F, .int .i64 d, .int .i64 5] 50)) := by go_grown
  have HC := Lib.hid hcell
  clear hf hv hcell hF
  go_enter Try.func6, Try.ntmps6
  go_upto_region 2 with fail
  generalize (w.alloc (.cells #[.int .i64 V, .int .i64 d, .int .i64 E] 50)).alloc (.cells #[.int .i64 F, .int .i64 d, .int .i64 5] 50) = w2 at *
  obtain ⟨X, hX⟩ : ∃ X, w.heap.size = X := ⟨_, rfl⟩
  rw [hX] at t hb2
  try rw [hX]
  have hX1 := lt_heap t.2
  have HT := Lib.hid t
  have HB2 := Lib.hid hb2
  clear t hb2 hm
  go_wp2_with fail
  go_loopw [8, 9, 10] (fun n v i wr => ∃ xs : List AskV, xs.length ≤ len ∧ xs.length ≤ 70 ∧ i = .int .i64 xs.length ∧ n = .int .i64 (satS F d xs) ∧ PlRel F d w2.heap.size xs v w2 wr) (fun _ _ i _ => 70 - (intOf i).toNat)
  case atStart => exact ⟨[], Nat.zero_le _, Nat.zero_le _, rfl, rfl, ⟨World.ownsRow_lit (base := w2.heap.size) w2 #[] 0 (Nat.le_refl _) (by decide) rfl, by simp, (Below.refl _ _).alloc (Nat.le_refl _) _, by simp⟩⟩
  case round =>
    obtain ⟨xs, hx1, hx2, rfl, rfl, hrel⟩ := hrel
    have hs0 := satS_le F d xs
    obtain ⟨ha1, hcap1, rfl, _⟩ := (SR.owns hrel.own).form
    have HR := Lib.hid hrel
    clear hrel
    obtain ⟨n, hn⟩ : ∃ n, satS F d xs = n := ⟨_, rfl⟩
    rw [hn] at hs0
    try rw [hn]
    have HN := Lib.hid hn
    clear hn
    by_cases hin : xs.length < len ∧ xs.length < 70
    · obtain ⟨hi1, hi2⟩ := hin
      obtain ⟨b, off, rfl, hbl, hc⟩ := HC.out.resolve_left (by omega)
      obtain ⟨ys, hy1, hy2, hy3⟩ := hc xs.length hi1
      obtain ⟨W, A, L, D, S, hok, c0, c1, c2, c3, c4⟩ := ask_at hy1 hy2 hy3
      have hbX : Below X w wr := HB2.out.trans (HR.out.bel.mono (by omega))
      have hbl' : b < X := by rw [← hX]; exact hbl
      have e5 : (Sh.two (.int .i64) (.two (.int .i64) (.two (.int .i64) (.two .str (.two .bool .unit))))).size = 5 := rfl
      rw [e5] at c0 c1 c2 c3 c4
      have c0 := (hbX.cell (p := ⟨b, _, none⟩) hbl').trans c0
      have c1 := (hbX.cell (p := ⟨b, _, none⟩) hbl').trans c1
      have c2 := (hbX.cell (p := ⟨b, _, none⟩) hbl').trans c2
      have c3 := (hbX.cell (p := ⟨b, _, none⟩) hbl').trans c3
      have c4 := (hbX.cell (p := ⟨b, _, none⟩) hbl').trans c4
      have x1 := below_at HR.out.bel (lt_heap HT.out.1) HT.out.1
      have x2 := below_at HR.out.bel (lt_heap HT.out.2) HT.out.2
      have v0 : wr.cell? ⟨X + 1, 0, none⟩ = some (.int .i64 F) := by simp [World.cell?, x2]
      have co := fun k w => odd_any W A L D S F k w hok.1 hok.2.1 hok.2.2.1 (wf_of (by omega)) hok.2.2.2
      unfold AskPost askA at co
      have hj1 : (xs.length : Int) < (len : Int) := by omega
      have hj7 : (xs.length : Int) < 70 := by omega
      have h31 : bits .and .i64 (xs.length : Int) 31 = (xs.length : Int) % 32 := mask_mod (xs.length : Int) 5 31 (by decide) (by decide)
      obtain ⟨q, hq⟩ : ∃ q : Int, (xs.length : Int) % 32 = q := ⟨_, rfl⟩
      have hq0 : 0 ≤ q := by omega
      have hq1 : q ≤ 31 := by omega
      rw [hq] at h31
      have HI := Lib.hid (And.intro hi1 hi2)
      have hszr : X + 1 < wr.heap.size := lt_heap x2
      have hszb : b < wr.heap.size := by omega
      clear hc hy1 hy2 hy3 hbX e5 x1 x2 hq hok HC
      go_upto_region 6 with fail
      go_cut [11] from 30 to 41 (fun p wx => MadeAt wr p wx)
      case first =>
        go_region_with (go_at_call 15; refine Calls.mono (co _ _) ?_; rintro e wz ⟨W', A', L', D', S', rfl, p1, p2, p3, p4, hbz⟩; try (have zt := zero_there (wr := wr) hbz (by show wr.heap.size < (wr.alloc _).heap.size; simp) rfl; have z0 : wz.cell? ⟨wr.heap.size, 0, none⟩ = some (.int .i64 0) := (by simp [World.cell?, zt]); have z1 : wz.cell? ⟨wr.heap.size, 1, none⟩ = some (.int .i64 0) := (by simp [World.cell?, zt]); have z2 : wz.cell? ⟨wr.heap.size, 2, none⟩ = some (.int .i64 0) := (by simp [World.cell?, zt]); have z3 : wz.cell? ⟨wr.heap.size, 3, none⟩ = some (.string ⟨#[]⟩) := (by simp [World.cell?, zt]); have z4 : wz.cell? ⟨wr.heap.size, 4, none⟩ = some (.bool false) := (by simp [World.cell?, zt]); have g0 : wz.frozen? ⟨wr.heap.size, 0, none⟩ = false := (by simp [World.frozen?, zt]); have g1 : wz.frozen? ⟨wr.heap.size, 1, none⟩ = false := (by simp [World.frozen?, zt]); have g2 : wz.frozen? ⟨wr.heap.size, 2, none⟩ = false := (by simp [World.frozen?, zt]); have g3 : wz.frozen? ⟨wr.heap.size, 3, none⟩ = false := (by simp [World.frozen?, zt]); have g4 : wz.frozen? ⟨wr.heap.size, 4, none⟩ = false := (by simp [World.frozen?, zt])))
        all_goals (simp only [Exit.then, Exit.inBlock]; go_step)
        all_goals go_meet
        all_goals first | (have zz := zt; exact made_b ⟨p1, p2, p3, p4⟩ (made_below hbz rfl) zz) | exact made_a ⟨p1, p2, p3, p4⟩ (below_of_drew hbz)
      case rest =>
        obtain ⟨P, x, rfl, hxo, hxP, hPle, hb6⟩ := hcut
        obtain ⟨w6, hw6⟩ : ∃ x, x = wc := ⟨_, rfl⟩
        subst hw6
        obtain ⟨W, A, L, D, S⟩ := x
        dsimp only at hxP
        have p0 : w6.cell? ⟨P, 0, none⟩ = some (.int .i64 W) := by simp [World.cell?, hxP]
        have p1 : w6.cell? ⟨P, 1, none⟩ = some (.int .i64 A) := by simp [World.cell?, hxP]
        have p2 : w6.cell? ⟨P, 2, none⟩ = some (.int .i64 L) := by simp [World.cell?, hxP]
        have p3 : w6.cell? ⟨P, 3, none⟩ = some (.string D) := by simp [World.cell?, hxP]
        have p4 : w6.cell? ⟨P, 4, none⟩ = some (.bool S) := by simp [World.cell?, hxP]
        have HB6 := Lib.hid hb6
        have HP := Lib.hid hxP
        have HXO := Lib.hid hxo
        clear hxo hxP hb6 c0 c1 c2 c3 c4 co v0 h31 hszb hbl hbl' hq0 hq1
        go_wp2_with (at_builtin; refine wp_app Try.underlying48 hi hz0 hz1 hz2 rfl (by decide) rfl (.tmp 42) (.tmp 44) rfl w2.heap.size _ xs.length (asksC xs) rfl ?c5 _ 1 [.int .i64 W, .int .i64 A, .int .i64 L, .string D, .bool S] rfl (SR.lit _ _ _ 5 1 (by decide) rfl) ?c1 ?c2 ?c3 ?c4 ?_)
        case c5 => exact owns_below HR.out.own (HB6.out.alloc HB6.out.size _)
        case c1 => first | exact ⟨rfl, rfl, rfl, rfl, rfl⟩ | (intro y hy; simp at hy; rcases hy with rfl | rfl | rfl | rfl | rfl <;> rfl)
        case c2 => unfold maxLen; have := HI.out; omega
        case c3 => have := HI.out; omega
        case c4 => have := HR.out.le; have := HB6.out.size; simp; omega
        intro v' w7 hown hgr
        have hP7 : w7.heap[P]? = some (.cells #[.int .i64 W, .int .i64 A, .int .i64 L, .string D, .bool S] 37) := by
          rw [hgr.block P (by have := lt_heap HP.out; simp; omega) (fun e => by have := (HR.out.own.lt P e.symm).2; omega)]
          rw [Below.heap_alloc w6 _ P (lt_heap HP.out)]
          exact HP.out
        have HR7 := Lib.hid (plrel_step (a := ⟨W, A, L, D, S⟩) HR.out HB6.out HXO.out hown hgr)
        have hx7 := below_at HR7.out.bel (lt_heap HT.out.1) HT.out.1
        have hy7 := below_at HR7.out.bel (lt_heap HT.out.2) HT.out.2
        clear p0 p1 p2 p3 p4 hgr hown
        have p0 : w7.cell? ⟨P, 0, none⟩ = some (.int .i64 W) := by simp [World.cell?, hP7]
        have p1 : w7.cell? ⟨P, 1, none⟩ = some (.int .i64 A) := by simp [World.cell?, hP7]
        have p2 : w7.cell? ⟨P, 2, none⟩ = some (.int .i64 L) := by simp [World.cell?, hP7]
        have p3 : w7.cell? ⟨P, 3, none⟩ = some (.string D) := by simp [World.cell?, hP7]
        have p4 : w7.cell? ⟨P, 4, none⟩ = some (.bool S) := by simp [World.cell?, hP7]
        have d1 : w7.cell? ⟨X, 1, none⟩ = some (.int .i64 d) := by simp [World.cell?, hx7]
        have v0 : w7.cell? ⟨X + 1, 0, none⟩ = some (.int .i64 F) := by simp [World.cell?, hy7]
        have HP7 := Lib.hid hP7
        clear hP7 hx7 hy7
        by_cases h4 : 4000 ≤ n
        · go_wp2_with fail
          go_roundw
          case rel => exact ⟨xs ++ [⟨W, A, L, D, S⟩], by rw [List.length_append]; exact HI.out.1, by rw [List.length_append]; exact HI.out.2, by rw [List.length_append]; go_num, by rw [satS_snoc, HN.out, if_pos h4], HR7.out⟩
          case measure => have := HI.out; simp [intOf]; omega
        · have h4' : n < 4000 := by omega
          by_cases h3 : W = 3
          · subst h3
            have hcost : cost F d ⟨3, A, L, D, S⟩ = min (max d 0) 64 := by unfold cost; rw [if_pos rfl]
            obtain ⟨kk, hkk⟩ : ∃ kk, min (max d 0) 64 = kk := ⟨_, rfl⟩
            rw [hkk] at hcost
            have hk0 : 0 ≤ kk := by omega
            have hk1 : kk ≤ 64 := by omega
            have HCO := Lib.hid hcost
            clear hcost
            go_wp2_with fail
            go_roundw
            case rel => exact ⟨xs ++ [⟨3, A, L, D, S⟩], by rw [List.length_append]; exact HI.out.1, by rw [List.length_append]; exact HI.out.2, by rw [List.length_append]; go_num, by rw [satS_snoc, HN.out, if_neg (Int.not_le.2 h4'), HCO.out], HR7.out⟩
            case measure => have := HI.out; simp [intOf]; omega
          · have e3 : (W == 3) = false := by rw [beq_eq_false_iff_ne]; exact h3
            obtain ⟨q1, q2, q3, q4⟩ := HXO.out
            have cm := fun w => rmay W A L D S F w q2 q3 q4 h3 hF0 hF1
            unfold askA at cm
            by_cases hmay : AskMay W A L D F
            · have hd : decide (AskMay W A L D F) = true := by simpa using hmay
              have hcost : cost F d ⟨W, A, L, D, S⟩ = 2 * (askSz W L D / 32) := by unfold cost; rw [if_neg h3, if_pos hmay]
              have hin := hmay.elim (fun h => absurd h h3) (fun h => h.2.2)
              unfold Inside at hin
              rw [hd] at cm
              have HCO := Lib.hid hcost
              clear hd hcost hmay
              by_cases h1 : W = 1
              · subst h1
                have hsz : askSz 1 L D = (D.size : Int) := rfl
                rw [hsz] at hin HCO
                obtain ⟨z, hz⟩ : ∃ z : Int, (D.size : Int) = z := ⟨_, rfl⟩
                rw [hz] at hin HCO
                have z1 : 32 ≤ z := hin.2.2.2.1
                have z2 : z ≤ 128 := hin.2.2.2.2.1
                have hdv : z.tdiv 32 = z / 32 := Int.tdiv_eq_ediv_of_nonneg (by omega)
                clear hin hsz
                go_wp2_with fail
                refine Calls.mono (cm _) ?_
                rintro e w8 ⟨rfl, hb8⟩
                have HR8 := Lib.hid (show PlRel F d w2.heap.size (xs ++ [⟨1, A, L, D, S⟩]) v' w2 w8 from ⟨owns_below HR7.out.own hb8, HR7.out.ok, HR7.out.bel.trans (hb8.mono HR7.out.le), Nat.le_trans HR7.out.le hb8.size⟩)
                go_wp2_with fail
                go_roundw
                case rel => exact ⟨xs ++ [⟨1, A, L, D, S⟩], by rw [List.length_append]; exact HI.out.1, by rw [List.length_append]; exact HI.out.2, by rw [List.length_append]; go_num, by rw [satS_snoc, HN.out, if_neg (Int.not_le.2 h4'), HCO.out], HR8.out⟩
                case measure => have := HI.out; simp [intOf]; omega
              · have e1 : (W == 1) = false := by rw [beq_eq_false_iff_ne]; exact h1
                have hsz : askSz W L D = L := by unfold askSz; rw [if_neg h1]
                rw [hsz] at hin HCO
                have z1 : 32 ≤ L := hin.2.2.2.1
                have z2 : L ≤ 128 := hin.2.2.2.2.1
                have hdv : L.tdiv 32 = L / 32 := Int.tdiv_eq_ediv_of_nonneg (by omega)
                clear hin hsz
                go_wp2_with fail
                refine Calls.mono (cm _) ?_
                rintro e w8 ⟨rfl, hb8⟩
                have HR8 := Lib.hid (show PlRel F d w2.heap.size (xs ++ [⟨W, A, L, D, S⟩]) v' w2 w8 from ⟨owns_below HR7.out.own hb8, HR7.out.ok, HR7.out.bel.trans (hb8.mono HR7.out.le), Nat.le_trans HR7.out.le hb8.size⟩)
                go_wp2_with fail
                go_roundw
                case rel => exact ⟨xs ++ [⟨W, A, L, D, S⟩], by rw [List.length_append]; exact HI.out.1, by rw [List.length_append]; exact HI.out.2, by rw [List.length_append]; go_num, by rw [satS_snoc, HN.out, if_neg (Int.not_le.2 h4'), HCO.out], HR8.out⟩
                case measure => have := HI.out; simp [intOf]; omega
            · have hd : decide (AskMay W A L D F) = false := by simpa using hmay
              have hcost : cost F d ⟨W, A, L, D, S⟩ = 0 := by unfold cost; rw [if_neg h3, if_neg hmay]
              rw [hd] at cm
              have HCO := Lib.hid hcost
              clear hd hcost hmay
              by_cases h1 : W = 1
              · subst h1
                go_wp2_with fail
                refine Calls.mono (cm _) ?_
                rintro e w8 ⟨rfl, hb8⟩
                have HR8 := Lib.hid (show PlRel F d w2.heap.size (xs ++ [⟨1, A, L, D, S⟩]) v' w2 w8 from ⟨owns_below HR7.out.own hb8, HR7.out.ok, HR7.out.bel.trans (hb8.mono HR7.out.le), Nat.le_trans HR7.out.le hb8.size⟩)
                go_wp2_with fail
                go_roundw
                case rel => exact ⟨xs ++ [⟨1, A, L, D, S⟩], by rw [List.length_append]; exact HI.out.1, by rw [List.length_append]; exact HI.out.2, by rw [List.length_append]; go_num, by rw [satS_snoc, HN.out, if_neg (Int.not_le.2 h4'), HCO.out, Int.add_zero], HR8.out⟩
                case measure => have := HI.out; simp [intOf]; omega
              · have e1 : (W == 1) = false := by rw [beq_eq_false_iff_ne]; exact h1
                go_wp2_with fail
                refine Calls.mono (cm _) ?_
                rintro e w8 ⟨rfl, hb8⟩
                have HR8 := Lib.hid (show PlRel F d w2.heap.size (xs ++ [⟨W, A, L, D, S⟩]) v' w2 w8 from ⟨owns_below HR7.out.own hb8, HR7.out.ok, HR7.out.bel.trans (hb8.mono HR7.out.le), Nat.le_trans HR7.out.le hb8.size⟩)
                go_wp2_with fail
                go_roundw
                case rel => exact ⟨xs ++ [⟨W, A, L, D, S⟩], by rw [List.length_append]; exact HI.out.1, by rw [List.length_append]; exact HI.out.2, by rw [List.length_append]; go_num, by rw [satS_snoc, HN.out, if_neg (Int.not_le.2 h4'), HCO.out, Int.add_zero], HR8.out⟩
                case measure => have := HI.out; simp [intOf]; omega
    · have hout : ¬ (xs.length < len) ∨ (xs.length < len ∧ ¬ ((xs.length : Int) < 70)) := by omega
      have x2 := below_at HR.out.bel (lt_heap HT.out.2) HT.out.2
      have v0 : wr.cell? ⟨X + 1, 0, none⟩ = some (.int .i64 F) := by simp [World.cell?, x2]
      have v1 : wr.cell? ⟨X + 1, 1, none⟩ = some (.int .i64 d) := by simp [World.cell?, x2]
      have v2 : wr.cell? ⟨X + 1, 2, none⟩ = some (.int .i64 5) := by simp [World.cell?, x2]
      have cp := fun w hs => pparts xs (.slice ha1 xs.length hcap1) F d 5 w hs HR.out.ok hx2
      have HS := Lib.hid (SR.owns HR.out.own)
      rw [HN.out] at cp
      have cpr := cp wr HS.out
      clear cp x2
      rcases hout with ho | ⟨ho, ho2⟩
      all_goals
        go_wp2_with fail
        refine Calls.mono (awake37 _) ?_
        rintro e w8 ⟨rfl, rfl⟩
        go_wp2_with fail
        refine Calls.mono cpr ?_
        rintro e w9 ⟨rfl, hb9⟩
        go_wp2_with fail
        go_ret
        exact ⟨ret_bool (by simp), by rw [hX]; exact HB2.out.trans ((HR.out.bel.trans (hb9.mono HR.out.le)).mono (by omega))⟩
end Go.Proofs.Ytjpnbicnaeaacaa
