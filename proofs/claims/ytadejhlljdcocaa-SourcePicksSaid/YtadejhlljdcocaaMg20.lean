/-
  Several texts, laid together.
-/
import Derived.Test.YtadejhlljdcocaaMg19
import Derived.Test.YtadejhlljdcocaaMg1
import Derived.Test.YtadejhlljdcocaaMg15
import Derived.WalkSpells
import Derived.WalkLawsBesides
import Derived.BigQuiet
import Derived.BigRegion
import Derived.Deep.QuietTactic
import Derived.Deep.RegionWith
import Derived.Deep.RegionHeld3
import Derived.StillTailTactics
import Derived.Deep.DeepCutAuto
import Derived.Handy
import Derived.IntWalk
/-
  place: what compares, rising, within.
-/

namespace Go.Proofs.Ytadejhlljdcocaa
open Go.RowKit
set_option linter.unusedVariables false
set_option linter.unusedSimpArgs false

theorem pinfo : (Try.prog.info? 3).map (fun i => (i.zero, i.size, i.bytes)) = some (some (.int .i64 0), 1, 8) := by kernel_rfl
theorem pcell {w : World} {b : Nat} {A : Array Value} {t : TypeId} {fr : Nat × Nat} (h : w.heap[b]? = some (.cells A t fr)) (i : Nat) {v : Value} (hv : A[i]? = some v) : w.cell? ⟨b, i, none⟩ = some v := by
  simp [World.cell?, h, hv]
theorem pfar {w : World} {p : Nat} {o' : Obj} (h : w.heap[p]? = some o') (o : Obj) : (w.alloc o).heap[p]? = some o' := ((Below.refl w.heap.size w).alloc (Nat.le_refl _) o).block p (lt_heap h) |>.trans h
def arr5 (ld : Nat → Int) : Array Value := #[.int .i64 (ld 0), .int .i64 (ld 1), .int .i64 (ld 2), .int .i64 (ld 3), .int .i64 (ld 4)]
theorem arr5_at (ld : Nat → Int) (k : Nat) (hk : k < 5) : (arr5 ld)[k]? = some (.int .i64 (ld k)) := by
  match k, hk with
  | 0, _ => rfl
  | 1, _ => rfl
  | 2, _ => rfl
  | 3, _ => rfl
  | 4, _ => rfl
def cmpL (ld : Nat → Int) (x y : Int) : Int := Lib.compareInt (ld x.toNat) (ld y.toNat)
set_option maxHeartbeats 800000 in
theorem rising1 (ld : Nat → Int) (bl : Nat) (x y : Int) (hx : 0 ≤ x ∧ x ≤ 4) (hy : 0 ≤ y ∧ y ≤ 4) (w : World) (h : w.heap[bl]? = some (.cells (arr5 ld) 118)) :
    Calls Try.prog 151 #[.int .i64 x, .int .i64 y, .pointer (some ⟨bl, 0, none⟩)] w fun e w' => e = .returned (.int .i64 (cmpL ld x y)) ∧ ∃ q, w' = w.drewN q := by
  obtain ⟨i, rfl⟩ := Int.eq_ofNat_of_zero_le hx.1
  obtain ⟨j, rfl⟩ := Int.eq_ofNat_of_zero_le hy.1
  have c1 := pcell h i (arr5_at ld i (by omega))
  have c2 := pcell h j (arr5_at ld j (by omega))
  unfold cmpL
  rw [Int.toNat_natCast, Int.toNat_natCast]
  have cc := fun q => Try.cmp_Compare_int (ld i) (ld j) (w.drewN q)
  have hi : i < 5 := by omega
  have hj : j < 5 := by omega
  generalize ld i = a at *
  generalize ld j = b at *
  generalize Lib.compareInt a b = c at *
  clear h
  go_enter Try.func151, Try.ntmps151
  go_wp2_with fail
  go_quiet (exact Calls.quiet_of_same (cc _))
  go_wp2_with fail
  go_ret
  exact ⟨rfl, _, rfl⟩
theorem pwithin (n least : Int) (w : World) : Calls Try.prog 152 #[.int .i64 n, .int .i64 least] w fun e w' => e = .returned (.int .i64 (min (max n least) 3)) ∧ w = w' := by
  go_enter Try.func152, Try.ntmps152
  go_wp2_with fail
  go_ret
  exact ⟨rfl, rfl⟩
theorem stableI0 (a : Option Addr) (cap : Nat) (f : Value) (w : World) : Calls Try.prog 150 #[.slice a 0 cap, f] w fun e w' => e = .returned (.tuple #[]) ∧ w = w' := by
  have ci : Calls Try.prog 206 #[.slice a 0 cap, .int .i64 0, .int .i64 0, f] w fun e w' => e = .returned (.tuple #[]) ∧ w = w' := by
    go_enter Try.func206, Try.ntmps206
    go_wp2_with fail
    go_loopw [8] (fun x wr => x = .int .i64 1 ∧ wr = w) (fun _ _ => 0)
    case atStart => exact ⟨rfl, rfl⟩
    case round =>
      obtain ⟨rfl, rfl⟩ := hrel
      go_wp2_with fail
      go_end0
      exact ⟨rfl, rfl⟩
  have cs : Calls Try.prog 187 #[.slice a 0 cap, .int .i64 0, f] w fun e w' => e = .returned (.tuple #[]) ∧ w = w' := by
    go_enter Try.func187, Try.ntmps187
    go_wp2_with fail
    go_loopw [7, 8] (fun x y wr => x = .int .i64 0 ∧ y = .int .i64 20 ∧ wr = w) (fun _ _ _ => 0)
    case atStart => exact ⟨rfl, rfl, rfl⟩
    case round =>
      obtain ⟨rfl, rfl, rfl⟩ := hrel
      go_wp2_with fail
      refine Calls.mono ci ?_
      rintro e w1 ⟨rfl, rfl⟩
      go_wp2_with fail
      go_loopw [6] (fun x wr2 => x = .int .i64 20 ∧ wr2 = wr) (fun _ _ => 0)
      case atStart => exact ⟨rfl, rfl⟩
      case round =>
        obtain ⟨rfl, rfl⟩ := hrel
        go_wp2_with fail
        go_end0
        exact ⟨rfl, rfl⟩
  clear ci
  go_enter Try.func150, Try.ntmps150
  go_wp2_with fail
  refine Calls.mono cs ?_
  rintro e w1 ⟨rfl, rfl⟩
  go_wp2_with fail
  go_end0
  exact ⟨rfl, rfl⟩
/-- the nodes that are up, below k -/
def upK (u : Nat → Bool) : Nat → List Int | 0 => [] | k + 1 => upK u k ++ if u k then [(k : Int)] else []
theorem upK_le (u : Nat → Bool) (k : Nat) : (upK u k).length ≤ k := by
  induction k with
  | zero => simp [upK]
  | succ k ih => simp only [upK, List.length_append]; split <;> simp <;> omega
theorem upK_mem (u : Nat → Bool) (k : Nat) (x : Int) : x ∈ upK u k ↔ ∃ i : Nat, i < k ∧ u i = true ∧ x = i := by
  induction k with
  | zero => simp [upK]
  | succ k ih =>
    simp only [upK, List.mem_append, ih]
    constructor
    · rintro (⟨i, h1, h2, h3⟩ | h)
      · exact ⟨i, by omega, h2, h3⟩
      · by_cases hu : u k = true
        · rw [if_pos hu] at h; simp at h; exact ⟨k, by omega, hu, h⟩
        · rw [if_neg hu] at h; simp at h
    · rintro ⟨i, h1, h2, h3⟩
      by_cases e : i = k
      · subst e; right; rw [if_pos h2]; simp [h3]
      · exact .inl ⟨i, by omega, h2, h3⟩
theorem upK_nodup (u : Nat → Bool) (k : Nat) : (upK u k).Nodup := by
  induction k with
  | zero => simp [upK]
  | succ k ih =>
    simp only [upK]
    split
    · rw [List.nodup_append]
      refine ⟨ih, by simp, fun a ha b hb => ?_⟩
      simp at hb
      subst hb
      obtain ⟨i, h1, _, rfl⟩ := (upK_mem u k a).1 ha
      omega
    · simpa using ih
def riseL (u : Nat → Bool) (ld : Nat → Int) : List Int := insTo (cmpL ld) (upK u 5) (upK u 5).length
def RisePost (u : Nat → Bool) (ld : Nat → Int) (w : World) (e : Ending) (w' : World) : Prop := ∃ v, e = .returned v ∧ SR w' v 1 (riseL u ld).length (nCells (riseL u ld)) ∧ Below w.heap.size w w'
theorem rowl_of {w : World} {base n : Nat} {v : Value} {l : List Int} (h : w.ownsRow base 3 1 v n (nCells l)) (hn : 1 ≤ n) (hl : l.length = n) : ∃ b cap, v = .slice (some ⟨b, 0, none⟩) n cap ∧ n ≤ cap ∧ cap ≤ maxLen ∧ base ≤ b ∧ b < w.heap.size ∧ RowL w b l ∧ (∃ cur, w.heap[b]? = some (.cells cur 3)) := by
  have hc := fun g => h.cells (g := g)
  rcases h.2 with ⟨rfl, rfl⟩ | ⟨g, cap, cur, rfl, hb, hg, hnc, hcm, hcs, ht⟩
  · omega
  · refine ⟨g, cap, rfl, hnc, hcm, hb, lt_heap hg, fun j hj => ⟨?_, by simp [World.frozen?, hg]⟩, cur, hg⟩
    have := hc g rfl j (.int .i64 (l.getD j 0)) (by simp [nCells, List.getD, hj])
    rw [add_off, Nat.zero_add] at this
    exact this
theorem RowL.sr {w : World} {b n cap : Nat} {l : List Int} (h : RowL w b l) (hl : l.length = n) (h1 : n ≤ cap) (h2 : cap ≤ maxLen) (hb : b < w.heap.size) : SR w (.slice (some ⟨b, 0, none⟩) n cap) 1 n (nCells l) := by
  refine ⟨_, cap, rfl, h1, h2, by rw [nCells_length, hl, Nat.mul_one], .inr ⟨b, 0, rfl, hb, fun j y hj => ?_⟩⟩
  have hjl : j < l.length := by
    have := (List.getElem?_eq_some_iff.1 hj).1
    rwa [nCells_length] at this
  rw [Nat.zero_add, (h j hjl).1, ← hj]
  simp [nCells, hjl, List.getD]
theorem owns_slice {w : World} {base size n : Nat} {e : TypeId} {v : Value} {xs : List Value} (h : w.ownsRow base e size v n xs) : ∃ a c, v = .slice a n c := by
  rcases h.2 with ⟨rfl, rfl⟩ | ⟨g, cap, _, rfl, _⟩
  · exact ⟨none, 0, rfl⟩
  · exact ⟨_, cap, rfl⟩
theorem sr_zero {w : World} {base size : Nat} {e : TypeId} {a : Option Addr} {c : Nat} {xs : List Value} (h : w.ownsRow base e size (.slice a 0 c) 0 xs) : SR w (.slice a 0 c) 1 0 (nCells []) := by
  have := SR.owns h
  obtain ⟨a', c', he, h1, h2, h3, h4⟩ := this
  injection he with e1 _ e3
  subst e1 e3
  exact ⟨a, c, rfl, h1, h2, rfl, .inl rfl⟩
set_option maxHeartbeats 3200000 in
set_option maxRecDepth 100000 in
theorem prising (u : Nat → Bool) (ld : Nat → Int) (w : World) :
    Calls Try.prog 109 #[.agg #[.bool (u 0), .bool (u 1), .bool (u 2), .bool (u 3), .bool (u 4)], .agg (arr5 ld)] w (RisePost u ld w) := by
  obtain ⟨i0, hi, hz0, hz1, hz2⟩ := info_parts pinfo
  have hb0 : Below w.heap.size w ((w.alloc (.cells #[.bool (u 0), .bool (u 1), .bool (u 2), .bool (u 3), .bool (u 4)] 111)).alloc (.cells (arr5 ld) 118)) := ((Below.refl _ _).alloc (Nat.le_refl _) _).alloc (by simp) _
  have hx := pfar (heap_alloc_self w (.cells #[.bool (u 0), .bool (u 1), .bool (u 2), .bool (u 3), .bool (u 4)] 111)) (.cells (arr5 ld) 118)
  have hy := heap_alloc_self (w.alloc (.cells #[.bool (u 0), .bool (u 1), .bool (u 2), .bool (u 3), .bool (u 4)] 111)) (.cells (arr5 ld) 118)
  have hz : (w.alloc (.cells #[.bool (u 0), .bool (u 1), .bool (u 2), .bool (u 3), .bool (u 4)] 111)).heap.size = w.heap.size + 1 := by simp
  rw [hz] at hy
  have x0 : ∀ w : World, (Instr.index 111 (.agg #[.bool (u 0), .bool (u 1), .bool (u 2), .bool (u 3), .bool (u 4)]) (.int .i64 0)).run Try.prog w = .ok (.bool (u 0)) w := fun _ => by kernel_rfl
  have x1 : ∀ w : World, (Instr.index 111 (.agg #[.bool (u 0), .bool (u 1), .bool (u 2), .bool (u 3), .bool (u 4)]) (.int .i64 1)).run Try.prog w = .ok (.bool (u 1)) w := fun _ => by kernel_rfl
  have x2 : ∀ w : World, (Instr.index 111 (.agg #[.bool (u 0), .bool (u 1), .bool (u 2), .bool (u 3), .bool (u 4)]) (.int .i64 2)).run Try.prog w = .ok (.bool (u 2)) w := fun _ => by kernel_rfl
  have x3 : ∀ w : World, (Instr.index 111 (.agg #[.bool (u 0), .bool (u 1), .bool (u 2), .bool (u 3), .bool (u 4)]) (.int .i64 3)).run Try.prog w = .ok (.bool (u 3)) w := fun _ => by kernel_rfl
  have x4 : ∀ w : World, (Instr.index 111 (.agg #[.bool (u 0), .bool (u 1), .bool (u 2), .bool (u 3), .bool (u 4)]) (.int .i64 4)).run Try.prog w = .ok (.bool (u 4)) w := fun _ => by kernel_rfl
  have HY := hy
  unfold arr5 at *
  go_enter Try.func109, Try.ntmps109
  go_upto_region 1 with fail
  generalize (w.alloc (.cells #[.bool (u 0), .bool (u 1), .bool (u 2), .bool (u 3), .bool (u 4)] 111)).alloc (.cells #[.int .i64 (ld 0), .int .i64 (ld 1), .int .i64 (ld 2), .int .i64 (ld 3), .int .i64 (ld 4)] 118) = wb at *
  have d0 := pcell hx 0 (v := .bool (u 0)) rfl
  have d1 := pcell hx 1 (v := .bool (u 1)) rfl
  have d2 := pcell hx 2 (v := .bool (u 2)) rfl
  have d3 := pcell hx 3 (v := .bool (u 3)) rfl
  have d4 := pcell hx 4 (v := .bool (u 4)) rfl
  have HX := Lib.hid (And.intro HY hb0)
  clear hx hy hz HY hb0
  go_wp2_with fail
  clear d0 d1 d2 d3 d4
  go_loopw [5, 9] (fun v i wr => ∃ k : Nat, k ≤ 5 ∧ i = .int .i64 k ∧ Hid (wr.ownsRow wb.heap.size 3 1 v (upK u k).length (nCells (upK u k)) ∧ Below wb.heap.size wb wr)) (fun _ i _ => 5 - (intOf i).toNat)
  case atStart => exact ⟨0, by decide, rfl, Lib.hid ⟨World.ownsRow_nil _ _ _ _, Below.refl _ _⟩⟩
  case round =>
    obtain ⟨k, hk, rfl, HR⟩ := hrel
    have hul := upK_le u k
    have hws := HR.out.2.size
    rcases (by omega : k = 5 ∨ k = 0 ∨ k = 1 ∨ k = 2 ∨ k = 3 ∨ k = 4) with rfl | rfl | rfl | rfl | rfl | rfl
    · rw [show ((5 : Nat) : Int) = 5 from rfl]
      obtain ⟨nn, hnn⟩ : ∃ nn, (upK u 5).length = nn := ⟨_, rfl⟩
      have HO := HR.out.1
      rw [hnn] at HO hul
      have HNN := Lib.hid hnn
      have hB5 := HR.out.2
      clear hnn
      obtain ⟨av, cv, rfl⟩ := owns_slice HO
      clear x0 x1 x2 x3 x4
      by_cases hn0 : nn = 0
      · subst hn0
        have cs := fun f => stableI0 av cv f wr
        have hnil : riseL u ld = [] := by unfold riseL; rw [HNN.out]; exact List.eq_nil_of_length_eq_zero HNN.out
        have HF := Lib.hid (show SR wr (.slice av 0 cv) 1 (riseL u ld).length (nCells (riseL u ld)) ∧ Below w.heap.size w wr from ⟨by rw [hnil]; exact sr_zero HO, HX.out.2.trans (hB5.mono HX.out.2.size)⟩)
        clear HO hnil hB5
        go_upto_region 8 with fail
        go_wp2_with fail
        refine Calls.mono (cs _) ?_
        rintro e w3 ⟨rfl, rfl⟩
        go_wp2_with fail
        go_ret
        exact ⟨_, rfl, HF.out⟩
      · obtain ⟨b, cap, he, hnc, hcm, hbb, hbl, hrow, -⟩ := rowl_of HO (by omega) HNN.out
        injection he with e1 _ e3
        subst e1 e3
        have hbd : ∀ x ∈ upK u 5, 0 ≤ x ∧ x ≤ 4 := fun x hx => by
          obtain ⟨i, h1, _, rfl⟩ := (upK_mem u 5 x).1 hx
          omega
        have hlb := lt_heap HX.out.1
        have hL := below_at hB5 hlb HX.out.1
        have cs := stableI 151 #[.pointer (some ⟨w.heap.size + 1, 0, none⟩)] (cmpL ld) (fun w' => w'.heap[w.heap.size + 1]? = some (.cells (arr5 ld) 118)) b nn cv (upK u 5) wr HNN.out (by omega) (by omega) hrow hL (fun _ _ => by rfl) (fun h1 h2 => (h2.block _ (lt_heap h1) (by omega)).trans h1) (fun x y w' hx hy hr => rising1 ld _ x y (hbd x hx) (hbd y hy) w' hr)
        have HB5 := Lib.hid (And.intro hB5 (And.intro hbb (And.intro hnc (And.intro hcm hbl))))
        clear hrow hbd hL HO hB5 hbb hnc hcm hbl hlb
        go_upto_region 8 with fail
        go_wp2_with fail
        refine Calls.mono cs ?_
        rintro e w3 ⟨rfl, h3⟩
        obtain ⟨h31, h32, h33, h34, h35⟩ := HB5.out
        have hlen : (insTo (cmpL ld) (upK u 5) nn).length = nn := by rw [insTo_len, HNN.out]
        have HF := Lib.hid (show SR w3 (.slice (some ⟨b, 0, none⟩) nn cv) 1 (riseL u ld).length (nCells (riseL u ld)) ∧ Below w.heap.size w w3 from ⟨by
            have he : riseL u ld = insTo (cmpL ld) (upK u 5) nn := by unfold riseL; rw [HNN.out]
            rw [he, hlen]
            exact h3.row.sr hlen h33 h34 (Nat.lt_of_lt_of_le h35 h3.only.size), HX.out.2.trans ((h31.mono HX.out.2.size).trans ((h3.only.below (B := w.heap.size) (by have := HX.out.2.size; omega) (by have := HX.out.2.size; have := h31.size; omega))))⟩)
        clear h3 h31 h32 h33 h34 h35 hlen cs
        go_wp2_with fail
        go_ret
        exact ⟨_, rfl, HF.out⟩
    · rw [show ((0 : Nat) : Int) = 0 from rfl]
      obtain ⟨q, hq⟩ : ∃ q, u 0 = q := ⟨_, rfl⟩
      have hup : upK u 1 = upK u 0 ++ if u 0 then [((0 : Nat) : Int)] else [] := rfl
      rw [hq] at hup
      have xx : ∀ w : World, (Instr.index 111 (.agg #[.bool (u 0), .bool (u 1), .bool (u 2), .bool (u 3), .bool (u 4)]) (.int .i64 0)).run Try.prog w = .ok (.bool q) w := fun w => by rw [← hq]; exact x0 w
      have HU := Lib.hid hup
      clear hq hup x0 x1 x2 x3 x4
      cases q
      · go_wp2_with fail
        go_roundw
        case rel => exact ⟨1, by decide, rfl, by rw [HU.out]; simpa using HR⟩
        case measure => simp [intOf]
      · obtain ⟨nn, hnn⟩ : ∃ nn, (upK u 0).length = nn := ⟨_, rfl⟩
        have HO := HR.out.1
        rw [hnn] at HO hul
        have HO' := Lib.hid HO
        have HNN := Lib.hid hnn
        clear HO hnn
        go_wp2_with (at_builtin; refine wp_app Try.underlying29 hi hz0 hz1 hz2 rfl (by decide) rfl (.tmp 14) (.tmp 16) rfl wb.heap.size _ nn (nCells (upK u 0)) rfl (HO'.out.alloc _) _ 1 [.int .i64 0] rfl (SR.lit _ _ #[.int .i64 0] 1 1 (by decide) rfl) ?c1 ?c2 ?c3 ?c4 ?_)
        case c1 => first | rfl | (intro y hy; simp at hy; subst hy; rfl)
        case c2 => unfold maxLen; omega
        case c3 => omega
        case c4 => first | omega | (simp; omega)
        intro v' w9 hown hgr
        have HF := Lib.hid (show w9.ownsRow wb.heap.size 3 1 v' (upK u 1).length (nCells (upK u 1)) ∧ Below wb.heap.size wb w9 from ⟨by
          rw [HU.out, if_pos trivial, List.length_append, HNN.out, ← nCells_append]; exact hown, below_app (HR.out.2.alloc hws _) hgr (HO'.out.alloc _) (Nat.le_refl _) (by simp; omega)⟩)
        clear hown hgr
        go_wp2_with fail
        go_roundw
        case rel => exact ⟨1, by decide, rfl, HF⟩
        case measure => simp [intOf]
    · rw [show ((1 : Nat) : Int) = 1 from rfl]
      obtain ⟨q, hq⟩ : ∃ q, u 1 = q := ⟨_, rfl⟩
      have hup : upK u 2 = upK u 1 ++ if u 1 then [((1 : Nat) : Int)] else [] := rfl
      rw [hq] at hup
      have xx : ∀ w : World, (Instr.index 111 (.agg #[.bool (u 0), .bool (u 1), .bool (u 2), .bool (u 3), .bool (u 4)]) (.int .i64 1)).run Try.prog w = .ok (.bool q) w := fun w => by rw [← hq]; exact x1 w
      have HU := Lib.hid hup
      clear hq hup x0 x1 x2 x3 x4
      cases q
      · go_wp2_with fail
        go_roundw
        case rel => exact ⟨2, by decide, rfl, by rw [HU.out]; simpa using HR⟩
        case measure => simp [intOf]
      · obtain ⟨nn, hnn⟩ : ∃ nn, (upK u 1).length = nn := ⟨_, rfl⟩
        have HO := HR.out.1
        rw [hnn] at HO hul
        have HO' := Lib.hid HO
        have HNN := Lib.hid hnn
        clear HO hnn
        go_wp2_with (at_builtin; refine wp_app Try.underlying29 hi hz0 hz1 hz2 rfl (by decide) rfl (.tmp 14) (.tmp 16) rfl wb.heap.size _ nn (nCells (upK u 1)) rfl (HO'.out.alloc _) _ 1 [.int .i64 1] rfl (SR.lit _ _ #[.int .i64 1] 1 1 (by decide) rfl) ?c1 ?c2 ?c3 ?c4 ?_)
        case c1 => first | rfl | (intro y hy; simp at hy; subst hy; rfl)
        case c2 => unfold maxLen; omega
        case c3 => omega
        case c4 => first | omega | (simp; omega)
        intro v' w9 hown hgr
        have HF := Lib.hid (show w9.ownsRow wb.heap.size 3 1 v' (upK u 2).length (nCells (upK u 2)) ∧ Below wb.heap.size wb w9 from ⟨by
          rw [HU.out, if_pos trivial, List.length_append, HNN.out, ← nCells_append]; exact hown, below_app (HR.out.2.alloc hws _) hgr (HO'.out.alloc _) (Nat.le_refl _) (by simp; omega)⟩)
        clear hown hgr
        go_wp2_with fail
        go_roundw
        case rel => exact ⟨2, by decide, rfl, HF⟩
        case measure => simp [intOf]
    · rw [show ((2 : Nat) : Int) = 2 from rfl]
      obtain ⟨q, hq⟩ : ∃ q, u 2 = q := ⟨_, rfl⟩
      have hup : upK u 3 = upK u 2 ++ if u 2 then [((2 : Nat) : Int)] else [] := rfl
      rw [hq] at hup
      have xx : ∀ w : World, (Instr.index 111 (.agg #[.bool (u 0), .bool (u 1), .bool (u 2), .bool (u 3), .bool (u 4)]) (.int .i64 2)).run Try.prog w = .ok (.bool q) w := fun w => by rw [← hq]; exact x2 w
      have HU := Lib.hid hup
      clear hq hup x0 x1 x2 x3 x4
      cases q
      · go_wp2_with fail
        go_roundw
        case rel => exact ⟨3, by decide, rfl, by rw [HU.out]; simpa using HR⟩
        case measure => simp [intOf]
      · obtain ⟨nn, hnn⟩ : ∃ nn, (upK u 2).length = nn := ⟨_, rfl⟩
        have HO := HR.out.1
        rw [hnn] at HO hul
        have HO' := Lib.hid HO
        have HNN := Lib.hid hnn
        clear HO hnn
        go_wp2_with (at_builtin; refine wp_app Try.underlying29 hi hz0 hz1 hz2 rfl (by decide) rfl (.tmp 14) (.tmp 16) rfl wb.heap.size _ nn (nCells (upK u 2)) rfl (HO'.out.alloc _) _ 1 [.int .i64 2] rfl (SR.lit _ _ #[.int .i64 2] 1 1 (by decide) rfl) ?c1 ?c2 ?c3 ?c4 ?_)
        case c1 => first | rfl | (intro y hy; simp at hy; subst hy; rfl)
        case c2 => unfold maxLen; omega
        case c3 => omega
        case c4 => first | omega | (simp; omega)
        intro v' w9 hown hgr
        have HF := Lib.hid (show w9.ownsRow wb.heap.size 3 1 v' (upK u 3).length (nCells (upK u 3)) ∧ Below wb.heap.size wb w9 from ⟨by
          rw [HU.out, if_pos trivial, List.length_append, HNN.out, ← nCells_append]; exact hown, below_app (HR.out.2.alloc hws _) hgr (HO'.out.alloc _) (Nat.le_refl _) (by simp; omega)⟩)
        clear hown hgr
        go_wp2_with fail
        go_roundw
        case rel => exact ⟨3, by decide, rfl, HF⟩
        case measure => simp [intOf]
    · rw [show ((3 : Nat) : Int) = 3 from rfl]
      obtain ⟨q, hq⟩ : ∃ q, u 3 = q := ⟨_, rfl⟩
      have hup : upK u 4 = upK u 3 ++ if u 3 then [((3 : Nat) : Int)] else [] := rfl
      rw [hq] at hup
      have xx : ∀ w : World, (Instr.index 111 (.agg #[.bool (u 0), .bool (u 1), .bool (u 2), .bool (u 3), .bool (u 4)]) (.int .i64 3)).run Try.prog w = .ok (.bool q) w := fun w => by rw [← hq]; exact x3 w
      have HU := Lib.hid hup
      clear hq hup x0 x1 x2 x3 x4
      cases q
      · go_wp2_with fail
        go_roundw
        case rel => exact ⟨4, by decide, rfl, by rw [HU.out]; simpa using HR⟩
        case measure => simp [intOf]
      · obtain ⟨nn, hnn⟩ : ∃ nn, (upK u 3).length = nn := ⟨_, rfl⟩
        have HO := HR.out.1
        rw [hnn] at HO hul
        have HO' := Lib.hid HO
        have HNN := Lib.hid hnn
        clear HO hnn
        go_wp2_with (at_builtin; refine wp_app Try.underlying29 hi hz0 hz1 hz2 rfl (by decide) rfl (.tmp 14) (.tmp 16) rfl wb.heap.size _ nn (nCells (upK u 3)) rfl (HO'.out.alloc _) _ 1 [.int .i64 3] rfl (SR.lit _ _ #[.int .i64 3] 1 1 (by decide) rfl) ?c1 ?c2 ?c3 ?c4 ?_)
        case c1 => first | rfl | (intro y hy; simp at hy; subst hy; rfl)
        case c2 => unfold maxLen; omega
        case c3 => omega
        case c4 => first | omega | (simp; omega)
        intro v' w9 hown hgr
        have HF := Lib.hid (show w9.ownsRow wb.heap.size 3 1 v' (upK u 4).length (nCells (upK u 4)) ∧ Below wb.heap.size wb w9 from ⟨by
          rw [HU.out, if_pos trivial, List.length_append, HNN.out, ← nCells_append]; exact hown, below_app (HR.out.2.alloc hws _) hgr (HO'.out.alloc _) (Nat.le_refl _) (by simp; omega)⟩)
        clear hown hgr
        go_wp2_with fail
        go_roundw
        case rel => exact ⟨4, by decide, rfl, HF⟩
        case measure => simp [intOf]
    · rw [show ((4 : Nat) : Int) = 4 from rfl]
      obtain ⟨q, hq⟩ : ∃ q, u 4 = q := ⟨_, rfl⟩
      have hup : upK u 5 = upK u 4 ++ if u 4 then [((4 : Nat) : Int)] else [] := rfl
      rw [hq] at hup
      have xx : ∀ w : World, (Instr.index 111 (.agg #[.bool (u 0), .bool (u 1), .bool (u 2), .bool (u 3), .bool (u 4)]) (.int .i64 4)).run Try.prog w = .ok (.bool q) w := fun w => by rw [← hq]; exact x4 w
      have HU := Lib.hid hup
      clear hq hup x0 x1 x2 x3 x4
      cases q
      · go_wp2_with fail
        go_roundw
        case rel => exact ⟨5, by decide, rfl, by rw [HU.out]; simpa using HR⟩
        case measure => simp [intOf]
      · obtain ⟨nn, hnn⟩ : ∃ nn, (upK u 4).length = nn := ⟨_, rfl⟩
        have HO := HR.out.1
        rw [hnn] at HO hul
        have HO' := Lib.hid HO
        have HNN := Lib.hid hnn
        clear HO hnn
        go_wp2_with (at_builtin; refine wp_app Try.underlying29 hi hz0 hz1 hz2 rfl (by decide) rfl (.tmp 14) (.tmp 16) rfl wb.heap.size _ nn (nCells (upK u 4)) rfl (HO'.out.alloc _) _ 1 [.int .i64 4] rfl (SR.lit _ _ #[.int .i64 4] 1 1 (by decide) rfl) ?c1 ?c2 ?c3 ?c4 ?_)
        case c1 => first | rfl | (intro y hy; simp at hy; subst hy; rfl)
        case c2 => unfold maxLen; omega
        case c3 => omega
        case c4 => first | omega | (simp; omega)
        intro v' w9 hown hgr
        have HF := Lib.hid (show w9.ownsRow wb.heap.size 3 1 v' (upK u 5).length (nCells (upK u 5)) ∧ Below wb.heap.size wb w9 from ⟨by
          rw [HU.out, if_pos trivial, List.length_append, HNN.out, ← nCells_append]; exact hown, below_app (HR.out.2.alloc hws _) hgr (HO'.out.alloc _) (Nat.le_refl _) (by simp; omega)⟩)
        clear hown hgr
        go_wp2_with fail
        go_roundw
        case rel => exact ⟨5, by decide, rfl, HF⟩
        case measure => simp [intOf]
end Go.Proofs.Ytadejhlljdcocaa
/-
  place.Pick where all are up and nothing is to do; the waking call of layer 41.
-/

namespace Go.Proofs.Ytadejhlljdcocaa
open Go.RowKit
set_option linter.unusedVariables false
set_option linter.unusedSimpArgs false

theorem sr_keepsP {N : Nat} {W w' : World} {v : Value} {size n : Nat} {xs : List Value} {X : Prop} (h : SR W v size n xs) (hN : W.heap.size = N) (hb : N ≤ w'.heap.size ∧ Below N W w' ∧ X) : SR w' v size n xs := by
  subst hN
  exact h.below hb.2.1
theorem owns_base {w : World} {a b n size : Nat} {e : TypeId} {v : Value} {xs : List Value} (h : w.ownsRow a e size v n xs) (hb : b ≤ a) : w.ownsRow b e size v n xs := by
  refine ⟨h.1, ?_⟩
  rcases h.2 with q | ⟨g, cap, cur, rfl, hg, r⟩
  · exact .inl q
  · exact .inr ⟨g, cap, cur, rfl, Nat.le_trans hb hg, r⟩
theorem clone_own (l : List Int) (w : World) (v : Value) (hv : SR w v 1 l.length (nCells l)) (hl : l.length ≤ 1000) :
    Calls Try.prog 153 #[v] w fun e w' => ∃ v', e = .returned v' ∧ w'.ownsRow w.heap.size 3 1 v' l.length (nCells l) ∧ Below w.heap.size w w' := by
  obtain ⟨a, cap, rfl, h1, h2, h3, h4⟩ := hv
  rcases h4 with h0 | ⟨b, off, rfl, hb, hc⟩
  · have : l = [] := List.eq_nil_of_length_eq_zero h0
    subst this
    cases a with
    | none =>
      refine (Try.slices_Clone_int_nil 0 cap w).mono ?_
      rintro e w' ⟨rfl, rfl⟩
      exact ⟨_, rfl, World.ownsRow_nil _ _ _ _, Below.refl _ _⟩
    | some ad =>
      refine (Try.slices_Clone_int_zero ad cap w).mono ?_
      rintro e w' ⟨v', rfl, ho, -, hb⟩
      exact ⟨v', rfl, ho, hb⟩
  · refine (Try.slices_Clone_int b off l.length cap l w (Nat.le_refl _) (by omega) (fun j hj => hc j _ (by simp [nCells, hj, List.getD]))).mono ?_
    rintro e w' ⟨v', rfl, ho, -, hb⟩
    rw [List.take_length] at ho
    exact ⟨v', rfl, ho, hb⟩
theorem sr_part {w : World} {b off n cap : Nat} {l : List Int} (h : SR w (.slice (some ⟨b, off, none⟩) n cap) 1 n (nCells l)) (i j : Nat) (hij : i ≤ j) (hj : j ≤ n) : SR w (.slice (some ⟨b, off + i, none⟩) (j - i) (cap - i)) 1 (j - i) (nCells ((l.take j).drop i)) := by
  obtain ⟨a', cap', he, h1, h2, h3, h4⟩ := h
  injection he with e1 _ e3
  subst e1 e3
  rw [nCells_length] at h3
  refine ⟨_, _, rfl, by omega, by unfold maxLen at *; omega, by simp [nCells]; omega, ?_⟩
  rcases Nat.eq_zero_or_pos (j - i) with h0 | h0
  · exact .inl h0
  · obtain ⟨b', off', e, hb, hc⟩ := h4.resolve_left (by omega)
    cases e
    refine .inr ⟨b, off + i, rfl, hb, fun k y hk => ?_⟩
    rw [Nat.add_assoc]
    refine hc (i + k) y ?_
    simp only [nCells, List.getElem?_map, List.getElem?_drop, List.getElem?_take] at hk ⊢
    split at hk
    · exact hk
    · simp at hk
theorem rise_all : riseL (fun _ => true) (fun _ => 0) = [0, 1, 2, 3, 4] := by
  unfold riseL
  have : cmpL (fun _ => 0) = fun _ _ => 0 := by funext x y; rfl
  rw [this, insTo_zero]
  rfl
def PickPost (w : World) (e : Ending) (w' : World) : Prop := ∃ v1 v2, e = .returned (.tuple #[v1, v2]) ∧ SR w' v1 1 2 (nCells [3, 4]) ∧ SR w' v2 1 3 (nCells [0, 1, 2]) ∧ Below w.heap.size w w'
section
variable {P : Program}
theorem stepP {t e : TypeId} {i : TypeInfo} {z : Value} {size bytes : Nat} (ht : P.underlying t = some (.slice e)) (hi : P.info? e = some i) (hz : i.zero = some z) (hsize : i.size = size) (hby : i.bytes = bytes)
    (hzs : z.cells.size = size) (hsz : 0 < size) {ops : Array Oper} {o : Oper} {a : Act} {K : Act → World → Prop} {Q : Exit → Act → World → Prop} {E : Prop} {w : World} (hgd : o.guard = none) (s x : Operand)
    (ho : o.op = .call { callee := .builtin .append, args := #[s, x], argTypes := #[t, t] }) (base : Nat) (v : Value) (n : Nat) (xs : List Value) (hs : a.eval s = v) (hown : w.ownsRow base e size v n xs)
    (u : Value) (m : Nat) (news : List Value) (hx : a.eval x = u) (hr : SR w u size m news)
    (h1 : ∀ y ∈ news, y.oneCell' = true) (h63 : n + m ≤ maxLen) (hbytes : (n + m) * bytes ≤ 140737488355328) (hbase : base ≤ w.heap.size)
    (h : ∀ v' w', w'.ownsRow base e size v' (n + m) (xs ++ news) → w.grownBy w' v.ownBlock → K (a.put o.dst v') w') :
    if Region.wanted o (yielded ops a.tmps) = true then Oper.wp P o a w K Q else E := by
  have hw : Region.wanted o (yielded ops a.tmps) = true := by simp [Region.wanted, hgd]
  rw [if_pos hw]
  obtain ⟨v', w', hrun, h2, h3⟩ := run_app (P := P) (ty := o.type) ht hi hz hsize hby hzs hsz w base v n xs hown u m news hr h1 h63 hbytes hbase
  unfold Oper.wp execOp
  simp only [ho, resolve, invoke, builtin, Sem.run_bind, Sem.run_pure, Result.andThen_ok, List.map_toArray, List.map_cons, List.map_nil, hs, hx, hrun]
  exact h v' w' h2 h3
end
theorem keepsP {N : Nat} {w w' w'' : World} {v : Value} {n size : Nat} {xs : List Value} {e : TypeId} {X : Prop} (h1 : N ≤ w'.heap.size ∧ Below N w w' ∧ X) (ho : w'.ownsRow N e size v n xs) (hg : w'.grownBy w'' v.ownBlock) : N ≤ w''.heap.size ∧ Below N w w'' ∧ ∀ b o, b < N → w''.cell? ⟨b, o, none⟩ = w.cell? ⟨b, o, none⟩ :=
  keeps_next h1 ⟨Nat.le_trans h1.1 hg.size, (Below.refl N w').grown hg h1.1 (fun q hq => (ho.lt q hq).1)⟩
set_option maxHeartbeats 3200000 in
set_option maxRecDepth 100000 in
theorem ppick (w : World) : Calls Try.prog 111 #[.agg #[.bool true, .bool true, .bool true, .bool true, .bool true], .agg #[.int .i64 0, .int .i64 0, .int .i64 0, .int .i64 0, .int .i64 0], .int .i64 2, .int .i64 3] w (PickPost w) := by
  obtain ⟨i0, hi, hz0, hz1, hz2⟩ := info_parts pinfo
  have hb0 : Below w.heap.size w ((w.alloc (.cells #[.bool true, .bool true, .bool true, .bool true, .bool true] 111)).alloc (.cells #[.int .i64 0, .int .i64 0, .int .i64 0, .int .i64 0, .int .i64 0] 118)) := ((Below.refl _ _).alloc (Nat.le_refl _) _).alloc (by simp) _
  have hx := pfar (heap_alloc_self w (.cells #[.bool true, .bool true, .bool true, .bool true, .bool true] 111)) (.cells #[.int .i64 0, .int .i64 0, .int .i64 0, .int .i64 0, .int .i64 0] 118)
  have hy := heap_alloc_self (w.alloc (.cells #[.bool true, .bool true, .bool true, .bool true, .bool true] 111)) (.cells #[.int .i64 0, .int .i64 0, .int .i64 0, .int .i64 0, .int .i64 0] 118)
  have hz : (w.alloc (.cells #[.bool true, .bool true, .bool true, .bool true, .bool true] 111)).heap.size = w.heap.size + 1 := by simp
  rw [hz] at hy
  have cr : ∀ w', Calls Try.prog 109 #[.agg #[.bool true, .bool true, .bool true, .bool true, .bool true], .agg #[.int .i64 0, .int .i64 0, .int .i64 0, .int .i64 0, .int .i64 0]] w' (RisePost (fun _ => true) (fun _ => 0) w') := fun w' => prising (fun _ => true) (fun _ => 0) w'
  have cw : ∀ w', Calls Try.prog 152 #[.int .i64 3, .int .i64 1] w' fun e w'' => e = .returned (.int .i64 3) ∧ w' = w'' := fun w' => pwithin 3 1 w'
  have cw2 : ∀ w', Calls Try.prog 152 #[.int .i64 2, .int .i64 0] w' fun e w'' => e = .returned (.int .i64 2) ∧ w' = w'' := fun w' => pwithin 2 0 w'
  go_enter Try.func111, Try.ntmps111
  go_upto_region 1 with fail
  generalize (w.alloc (.cells #[.bool true, .bool true, .bool true, .bool true, .bool true] 111)).alloc (.cells #[.int .i64 0, .int .i64 0, .int .i64 0, .int .i64 0, .int .i64 0] 118) = w1 at *
  have d0 := pcell hx 0 (v := .bool true) rfl
  have d1 := pcell hx 1 (v := .bool true) rfl
  have d2 := pcell hx 2 (v := .bool true) rfl
  have d3 := pcell hx 3 (v := .bool true) rfl
  have d4 := pcell hx 4 (v := .bool true) rfl
  have e0 := pcell hy 0 (v := .int .i64 0) rfl
  have e1 := pcell hy 1 (v := .int .i64 0) rfl
  have e2 := pcell hy 2 (v := .int .i64 0) rfl
  have e3 := pcell hy 3 (v := .int .i64 0) rfl
  have e4 := pcell hy 4 (v := .int .i64 0) rfl
  have HB0 := Lib.hid hb0
  clear hx hy hz hb0
  go_wp2_with fail
  refine Calls.mono (cr _) ?_
  rintro e w2 ⟨v, rfl, hv, hb2⟩
  rw [rise_all] at hv
  have hv : SR w2 v 1 5 (nCells [0, 1, 2, 3, 4]) := hv
  have HB2 := Lib.hid (HB0.out.trans (hb2.mono HB0.out.size))
  obtain ⟨a, cap, rfl, hc1, hc2⟩ := hv.form
  unfold maxLen at hc2
  obtain ⟨b, off, rfl, hbl, -⟩ := SR.int hv (by decide)
  have p1 := sr_part hv 3 5 (by decide) (by decide)
  rw [show (([0, 1, 2, 3, 4] : List Int).take 5).drop 3 = [3, 4] from rfl] at p1
  have p2 := sr_part hv 0 3 (by decide) (by decide)
  rw [show (([0, 1, 2, 3, 4] : List Int).take 3).drop 0 = [0, 1, 2] from rfl, Nat.add_zero, Nat.sub_zero, Nat.sub_zero] at p2
  have hc1' : ((cap : Int) - 3) = ((cap - 3 : Nat) : Int) := by omega
  have HP := Lib.hid (And.intro p1 p2)
  clear hb2 hv p1 p2 cr d0 d1 d2 d3 d4 e0 e1 e2 e3 e4 hc1'
  go_wp2_with fail
  refine Calls.mono (cw _) ?_
  rintro e w3 ⟨rfl, rfl⟩
  have hm3 : (min 3 5 : Int) = 3 := by decide
  have hm2 : (min 2 5 : Int) = 2 := by decide
  have hm4 : 3 < cap := by omega
  have hm5 : (3 : Int) ≤ cap := by omega
  obtain ⟨N, hN⟩ : ∃ N, w2.heap.size = N := ⟨_, rfl⟩
  have HN := Lib.hid hN
  have c1 : ∀ w', (N ≤ w'.heap.size ∧ Below N w2 w' ∧ ∀ b o, b < N → w'.cell? ⟨b, o, none⟩ = w2.cell? ⟨b, o, none⟩) → Calls Try.prog 153 #[.slice (some ⟨b, off + 3, none⟩) 2 (cap - 3)] w' fun e w'' => ∃ v', e = .returned v' ∧ w''.ownsRow N 3 1 v' 2 (nCells [3, 4]) ∧ Stays N w' w'' := fun w' h =>
    (clone_own [3, 4] w' _ (sr_keepsP HP.out.1 HN.out h) (by decide)).mono fun e w'' ⟨v', he, ho, hb⟩ => ⟨v', he, owns_base ho h.1, stays_of h.1 hb⟩
  have hcap3 : ¬ cap = 3 := by omega
  rw [hN] at hbl
  clear hv hN
  go_upto_region 5 with fail
  go_region_held3 (fun w' => N ≤ w'.heap.size ∧ Below N w2 w' ∧ ∀ b o, b < N → w'.cell? ⟨b, o, none⟩ = w2.cell? ⟨b, o, none⟩) (first | assumption | exact keeps_start HN.out | exact keeps_next (by assumption) (by assumption) | exact keepsP (by assumption) (by assumption) (by assumption)) (first | (go_at_call 153; refine Calls.mono (c1 _ (by assumption)) ?_; rintro e wz ⟨v', rfl, hown, hz⟩) | (refine stepP Try.underlying29 hi hz0 hz1 hz2 rfl (by decide) rfl (.tmp 27) (.tmp 30) rfl N _ _ _ rfl hown _ 3 (nCells [0, 1, 2]) rfl (sr_keepsP HP.out.2 HN.out (by assumption)) (nCells_one _) (by unfold maxLen; omega) (by omega) (And.left (by assumption)) ?_; intro v3 w9 hown2 hgr))
  rename_i hfin
  have hb9 := hfin.2.1
  have hO9 : w9.ownsRow N 3 1 v3 5 (nCells [3, 4, 0, 1, 2]) := hown2
  obtain ⟨g, cap2, rfl, hg1, hg2, -, hg4, -, -⟩ := rowl_of hO9 (by decide) rfl
  have hS9 := SR.owns hO9
  have q1 := sr_part hS9 0 2 (by decide) (by decide)
  rw [show (([3, 4, 0, 1, 2] : List Int).take 2).drop 0 = [3, 4] from rfl, Nat.add_zero, Nat.sub_zero, Nat.sub_zero] at q1
  have q2 := sr_keepsP HP.out.2 HN.out hfin
  have HQ := Lib.hid (And.intro q1 q2)
  have HB9 := Lib.hid (HB2.out.trans (hb9.mono (by have := HB2.out.size; have := HN.out; omega)))
  unfold maxLen at hg2
  obtain ⟨M, hM⟩ : ∃ M, w9.heap.size = M := ⟨_, rfl⟩
  have HM := Lib.hid hM
  have c2 : ∀ w', (M ≤ w'.heap.size ∧ Below M w9 w' ∧ ∀ b o, b < M → w'.cell? ⟨b, o, none⟩ = w9.cell? ⟨b, o, none⟩) → Calls Try.prog 153 #[.slice (some ⟨g, 0, none⟩) 2 cap2] w' fun e w'' => ∃ v', e = .returned v' ∧ w''.ownsRow M 3 1 v' 2 (nCells [3, 4]) ∧ Stays M w' w'' ∧ Below w'.heap.size w' w'' := fun w' h =>
    (clone_own [3, 4] w' _ (sr_keepsP HQ.out.1 HM.out h) (by decide)).mono fun e w'' ⟨v', he, ho, hb⟩ => ⟨v', he, owns_base ho h.1, stays_of h.1 hb, hb⟩
  have c3 : ∀ w', (M ≤ w'.heap.size ∧ Below M w9 w' ∧ ∀ b o, b < M → w'.cell? ⟨b, o, none⟩ = w9.cell? ⟨b, o, none⟩) → Calls Try.prog 153 #[.slice (some ⟨b, off, none⟩) 3 cap] w' fun e w'' => ∃ v', e = .returned v' ∧ w''.ownsRow M 3 1 v' 3 (nCells [0, 1, 2]) ∧ Stays M w' w'' ∧ Below w'.heap.size w' w'' := fun w' h =>
    (clone_own [0, 1, 2] w' _ (sr_keepsP HQ.out.2 HM.out h) (by decide)).mono fun e w'' ⟨v', he, ho, hb⟩ => ⟨v', he, owns_base ho h.1, stays_of h.1 hb, hb⟩
  have hm6 : (2 : Int) ≤ cap2 := by omega
  have hMb : b < M := Nat.lt_of_lt_of_le hbl (by have := hfin.1; omega)
  rw [hM] at hg4
  clear hown hown2 hgr hz hfin hb9 hO9 hS9 q1 q2 c1 cw hM
  go_upto_region 6 with fail
  go_region_held3 (fun w' => M ≤ w'.heap.size ∧ Below M w9 w' ∧ ∀ b o, b < M → w'.cell? ⟨b, o, none⟩ = w9.cell? ⟨b, o, none⟩) (first | assumption | exact keeps_start HM.out | exact keeps_next (by assumption) (by assumption)) (first | (go_at_call 152; refine Calls.mono (cw2 _) ?_; rintro e wz ⟨rfl, rfl⟩) | (go_at_call 153; ((with_reducible refine Calls.mono (c2 _ (by assumption)) ?_); rintro e wy ⟨v1, rfl, hown1, hz1, hy1⟩)) | (go_at_call 153; ((with_reducible refine Calls.mono (c3 _ (by assumption)) ?_); rintro e wx ⟨v2, rfl, hown2, hz2, hy2⟩)))
  rename_i hfin
  have HF := Lib.hid (show SR wx v1 1 2 (nCells [3, 4]) ∧ SR wx v2 1 3 (nCells [0, 1, 2]) ∧ Below w.heap.size w wx from ⟨(SR.owns hown1).below hy2, SR.owns hown2, HB9.out.trans (hfin.2.1.mono (by have := HB9.out.size; have := HM.out; omega))⟩)
  clear hown1 hown2 hy1 hy2 hz1 hz2 hfin c2 c3 cw2
  go_wp2_with fail
  go_returns
  exact ⟨_, _, rfl, HF.out⟩
theorem awake41 (w : World) : Calls Try.prog 58 #[] w fun e w' => e = .returned (.bool true) ∧ Below w.heap.size w w' := by
  have cp := fun w => ppick w
  go_enter Try.func58, Try.ntmps58
  go_wp2_with fail
  refine Calls.mono (cp _) ?_
  rintro e w2 ⟨v1, v2, rfl, h1, h2, hb⟩
  obtain ⟨a1, q1, rfl, hq1, hq2⟩ := h1.form
  obtain ⟨a2, q2, rfl, hq3, hq4⟩ := h2.form
  obtain ⟨b1, o1, rfl, -, k1⟩ := SR.int h1 (by decide)
  obtain ⟨b2, o2, rfl, -, k2⟩ := SR.int h2 (by decide)
  have c10 : w2.cell? ⟨b1, o1, none⟩ = some (.int .i64 3) := k1 0 (by decide)
  have c11 : w2.cell? ⟨b1, o1 + 1, none⟩ = some (.int .i64 4) := k1 1 (by decide)
  have c20 : w2.cell? ⟨b2, o2, none⟩ = some (.int .i64 0) := k2 0 (by decide)
  have c22 : w2.cell? ⟨b2, o2 + 2, none⟩ = some (.int .i64 2) := k2 2 (by decide)
  unfold maxLen at hq2 hq4
  have HB := Lib.hid hb
  clear h1 h2 k1 k2 hb cp
  go_wp2_with fail
  go_ret
  exact ⟨rfl, HB.out⟩
end Go.Proofs.Ytadejhlljdcocaa
/-
  Lists of nodes, as the document has them: has, nodes, Lists.
-/













namespace Go.Proofs.Ytadejhlljdcocaa
open Go.RowKit
set_option linter.unusedVariables false

theorem mem_take_succ (l : List Int) (k : Nat) (hk : k < l.length) (n : Int) : n ∈ l.take (k + 1) ↔ n ∈ l.take k ∨ n = l.getD k 0 := by
  have e : l.getD k 0 = l[k] := by simp [List.getD, hk]
  rw [List.take_succ_eq_append_getElem hk, e]
  simp only [List.mem_append, List.mem_singleton]
def NotIn (n : Int) (l : List Int) : Prop := n ∉ l
theorem has_any (v : Value) (l : List Int) (n : Int) (w : World) (hv : SR w v 1 l.length (nCells l)) : Calls Try.prog 186 #[v, .int .i64 n] w fun e w' => e = .returned (.bool (decide (n ∈ l))) ∧ w = w' := by
  obtain ⟨ad, cap, rfl, hlc, hcm⟩ := hv.form
  unfold maxLen at hcm
  have HV := Lib.hid hv
  clear hv
  obtain ⟨r, hr⟩ : ∃ r, r = decide (n ∈ l) := ⟨_, rfl⟩
  rw [← hr]
  have HR := Lib.hid hr
  clear hr
  go_enter Try.func186, Try.ntmps186
  go_wp2_with fail
  go_loop [5] (fun i => ∃ k : Nat, k ≤ l.length ∧ i = .int .i64 k ∧ NotIn n (l.take k)) (fun i => l.length - (intOf i).toNat)
  case atStart => exact ⟨0, Nat.zero_le _, rfl, by simp [NotIn]⟩
  case round =>
    obtain ⟨k, hk, rfl, hno⟩ := hrel
    have HN := Lib.hid hno
    clear hno
    by_cases hlt : k < l.length
    · obtain ⟨b, off, rfl, hb, hcell⟩ := HV.out.int (by omega)
      have hc := hcell k hlt
      obtain ⟨x, hx⟩ : ∃ x, x = l.getD k 0 := ⟨_, rfl⟩
      rw [← hx] at hc
      have HX := Lib.hid hx
      clear hcell hx
      by_cases he : x = n
      · subst he
        go_wp2_with fail
        go_ret
        refine ⟨ret_bool ?_, rfl⟩
        rw [HR.out]
        symm
        rw [decide_eq_true_eq]
        have : x ∈ l.take (k + 1) := (mem_take_succ l k hlt x).2 (.inr HX.out)
        exact List.mem_of_mem_take this
      · go_wp2_with fail
        go_round
        case rel =>
          refine ⟨k + 1, by omega, by go_num, fun h => ?_⟩
          rcases (mem_take_succ l k hlt n).1 h with h | h
          · exact HN.out h
          · exact he (HX.out.trans h.symm)
        case measure => simp [intOf]; omega
    · obtain rfl : k = l.length := by omega
      clear hlt
      go_wp2_with fail
      go_ret
      refine ⟨ret_bool ?_, rfl⟩
      rw [HR.out]
      symm
      rw [decide_eq_false_iff_not]
      have := HN.out
      rw [NotIn, List.take_length] at this
      exact this
/-- the first k are nodes, each once -/
def okK (l : List Int) : Nat → Bool
  | 0 => true
  | k + 1 => okK l k && decide (0 ≤ l.getD k 0 ∧ l.getD k 0 ≤ 4) && !decide (l.getD k 0 ∈ l.take k)
theorem okK_le (l : List Int) (k j : Nat) (hj : j ≤ k) (h : okK l k = true) : okK l j = true := by
  induction k with
  | zero => rw [show j = 0 by omega]; rfl
  | succ k ih =>
    by_cases e : j = k + 1
    · rw [e]; exact h
    · simp only [okK, Bool.and_eq_true] at h
      exact ih (by omega) h.1.1
def nodesB (l : List Int) (least : Nat) : Bool := okK l l.length && decide (least ≤ l.length) && decide (l.length ≤ 3)
theorem bad_nodes (l : List Int) (least k : Nat) (hk : k < l.length) (h : okK l (k + 1) = false) : nodesB l least = false := by
  have : okK l l.length = false := by
    cases e : okK l l.length
    · rfl
    · rw [okK_le l l.length (k + 1) (by omega) e] at h; exact h
  simp [nodesB, this]
def OkAt (l : List Int) (k : Nat) : Prop := okK l k = true
def SameHeap (w wr : World) : Prop := wr.heap = w.heap ∧ wr.os = w.os ∧ wr.tape = w.tape ∧ wr.output = w.output
theorem SameHeap.drew {w wr : World} (h : SameHeap w wr) (n : Nat) : SameHeap w (wr.drewN n) := h
theorem SameHeap.drew1 {w wr : World} (h : SameHeap w wr) : SameHeap w wr.drew := h
theorem cell_same {w wr : World} (h : SameHeap w wr) (b o : Nat) : wr.cell? ⟨b, o, none⟩ = w.cell? ⟨b, o, none⟩ := by simp only [World.cell?, h.1]
theorem SameHeap.below {w wr : World} (h : SameHeap w wr) : Below w.heap.size w wr := ⟨h.2.1, h.2.2.1, h.2.2.2, by rw [h.1]; exact Nat.le_refl _, fun k _ => by rw [h.1]⟩
theorem below_same {B : Nat} {x w wr : World} (h : Below B x w) (hs : SameHeap w wr) : Below B x wr :=
  ⟨hs.2.1.trans h.os, hs.2.2.1.trans h.tape, hs.2.2.2.trans h.output, by rw [hs.1]; exact h.size, fun k hk => by rw [hs.1]; exact h.block k hk⟩
theorem SR.same {w wr : World} {v : Value} {size n : Nat} {xs : List Value} (h : SR w v size n xs) (hs : SameHeap w wr) : SR wr v size n xs := h.below hs.below
theorem same_trans {a b c : World} (h : SameHeap a b) (k : SameHeap b c) : SameHeap a c := ⟨k.1.trans h.1, k.2.1.trans h.2.1, k.2.2.1.trans h.2.2.1, k.2.2.2.trans h.2.2.2⟩
def BoolPost (r : Bool) (w : World) (e : Ending) (w' : World) : Prop := e = .returned (.bool r) ∧ ∃ n, w' = w.drewN n
theorem BoolPost.heap {r : Bool} {w w' : World} {e : Ending} (h : BoolPost r w e w') : e = .returned (.bool r) ∧ SameHeap w w' := by
  obtain ⟨he, n, rfl⟩ := h
  exact ⟨he, rfl, rfl, rfl, rfl⟩
theorem quiet_l {P : Program} {f : FuncId} {args : Array Value} {w : World} {a n : Nat} {v : Value} (h : Calls P f args (w.drewN (a + n)) fun e w' => e = .returned v ∧ w.drewN (a + n) = w') :
    Calls P f args (w.drewN (a + n)) fun e w'' => e = .returned v ∧ ∃ m, w'' = w.drewN (a + m) := h.mono fun _ _ ⟨he, hm⟩ => ⟨he, n, hm.symm⟩
set_option maxHeartbeats 3200000 in
set_option maxRecDepth 20000 in
theorem nodes_any (v : Value) (l : List Int) (least : Nat) (w : World) (hv : SR w v 1 l.length (nCells l)) (hl : least ≤ 1) : Calls Try.prog 149 #[v, .int .i64 least] w (BoolPost (nodesB l least) w) := by
  obtain ⟨ad, cap, rfl, hlc, hcm⟩ := hv.form
  unfold maxLen at hcm
  have HV := Lib.hid hv
  clear hv
  go_enter Try.func149, Try.ntmps149
  go_wp2_with fail
  go_loopw [5] (fun i wr => ∃ k t : Nat, k ≤ l.length ∧ i = .int .i64 k ∧ OkAt l k ∧ wr = w.drewN t) (fun i _ => l.length - (intOf i).toNat)
  case atStart => exact ⟨0, 0, Nat.zero_le _, rfl, rfl, rfl⟩
  case round =>
    obtain ⟨k, t, hk, rfl, hok, rfl⟩ := hrel
    have HK := Lib.hid hok
    clear hok
    by_cases hlt : k < l.length
    · obtain ⟨b, off, rfl, hb, hcell⟩ := HV.out.int (by omega)
      have hc := hcell k hlt
      have hfr := (HV.out.front k (by omega)).same (show SameHeap w (w.drewN t) from ⟨rfl, rfl, rfl, rfl⟩)
      rw [nCells_take] at hfr
      obtain ⟨x, hx⟩ : ∃ x, x = l.getD k 0 := ⟨_, rfl⟩
      rw [← hx] at hc
      have HX := Lib.hid hx
      have hlk : (l.take k).length = k := by rw [List.length_take]; omega
      have ch : ∀ m, Calls Try.prog 186 #[.slice (some ⟨b, off, none⟩) k cap, .int .i64 x] (w.drewN m) fun e w' => e = .returned (.bool (decide (x ∈ l.take k))) ∧ w.drewN m = w' := fun m => has_any _ (l.take k) x (w.drewN m) (by rw [hlk]; exact hfr.same (show SameHeap (w.drewN t) (w.drewN m) from ⟨rfl, rfl, rfl, rfl⟩))
      have hs1 : okK l (k + 1) = (okK l k && decide (0 ≤ x ∧ x ≤ 4) && !decide (x ∈ l.take k)) := by rw [hx]; rfl
      have HS := Lib.hid hs1
      have hck : k ≤ cap := by omega
      clear hcell hx hfr hlk hs1
      have hcase : x < 0 ∨ (0 ≤ x ∧ 4 < x) ∨ (0 ≤ x ∧ x ≤ 4) := by omega
      rcases hcase with h | ⟨h, h'⟩ | ⟨h, h'⟩
      · have hd : decide (x < 0) = true := by simpa using h
        have hbad := bad_nodes l least k hlt (by rw [HS.out]; simp; omega)
        have HB := Lib.hid hbad
        clear hbad
        go_wp2_with fail
        go_quiet (fail)
        go_wp2_with fail
        go_ret
        exact ⟨ret_bool HB.out.symm, _, World.drewN_drewN _ _ _⟩
      · have hd : decide (x < 0) = false := by simp; omega
        have hd2 : decide (4 < x) = true := by simpa using h'
        have hbad := bad_nodes l least k hlt (by rw [HS.out]; simp; omega)
        have HB := Lib.hid hbad
        clear hbad
        go_wp2_with fail
        go_quiet (fail)
        go_wp2_with fail
        go_ret
        exact ⟨ret_bool HB.out.symm, _, World.drewN_drewN _ _ _⟩
      · have hd : decide (x < 0) = false := by simp; omega
        have hd2 : decide (4 < x) = false := by simp; omega
        obtain ⟨m, hm⟩ : ∃ m, m = decide (x ∈ l.take k) := ⟨_, rfl⟩
        rw [← hm] at HS
        simp only [← hm] at ch
        clear hm
        cases m
        · have hok : okK l (k + 1) = true := by rw [HS.out, HK.out]; simp; omega
          have HO := Lib.hid hok
          clear hok
          go_wp2_with fail
          go_quiet ((go_at_call 186; exact quiet_l (ch _)))
          go_wp2_with fail
          go_roundw
          case rel => exact ⟨k + 1, _, by omega, by go_num, HO.out, rfl⟩
          case measure => simp [intOf]; omega
        · have hbad := bad_nodes l least k hlt (by rw [HS.out]; simp)
          have HB := Lib.hid hbad
          clear hbad
          go_wp2_with fail
          go_quiet ((go_at_call 186; exact quiet_l (ch _)))
          go_wp2_with fail
          go_ret
          exact ⟨ret_bool HB.out.symm, _, World.drewN_drewN _ _ _⟩
    · obtain rfl : k = l.length := by omega
      have hnb : nodesB l least = (decide (least ≤ l.length) && decide (l.length ≤ 3)) := by simp [nodesB, show okK l l.length = true from HK.out]
      have HN := Lib.hid hnb
      clear hlt hnb
      have h3 : l.length < least ∨ (least ≤ l.length ∧ l.length ≤ 3) ∨ (least ≤ l.length ∧ 3 < l.length) := by omega
      rcases h3 with h | ⟨h, h'⟩ | ⟨h, h'⟩
      · have e : (decide (least ≤ l.length) && decide (l.length ≤ 3)) = false := by simp; omega
        rw [e] at HN
        go_wp2_with fail
        go_ret
        exact ⟨ret_bool (by rw [HN.out]; try simp), _, rfl⟩
      · have e : (decide (least ≤ l.length) && decide (l.length ≤ 3)) = true := by simp; omega
        rw [e] at HN
        go_wp2_with fail
        go_ret
        exact ⟨ret_bool (by rw [HN.out]; simp; omega), _, rfl⟩
      · have e : (decide (least ≤ l.length) && decide (l.length ≤ 3)) = false := by simp; omega
        rw [e] at HN
        go_wp2_with fail
        go_ret
        exact ⟨ret_bool (by rw [HN.out]; simp; omega), _, rfl⟩
theorem lists_any (u v : Value) (l m : List Int) (w : World) (hu : SR w u 1 l.length (nCells l)) (hv : SR w v 1 m.length (nCells m)) : Calls Try.prog 101 #[u, v] w (BoolPost (nodesB l 0 && nodesB m 1) w) := by
  have c1 := nodes_any u l 0 w hu (by omega)
  have c2 : ∀ n, Calls Try.prog 149 #[v, .int .i64 ((1 : Nat) : Int)] (w.drewN n) (BoolPost (nodesB m 1) (w.drewN n)) := fun n => nodes_any v m 1 _ (hv.same (show SameHeap w (w.drewN n) from ⟨rfl, rfl, rfl, rfl⟩)) (by omega)
  generalize nodesB l 0 = a at *
  generalize nodesB m 1 = b at *
  go_enter Try.func101, Try.ntmps101
  go_wp2_with fail
  refine Calls.mono c1 ?_
  rintro e w1 ⟨rfl, n, rfl⟩
  cases a
  · go_wp2_with fail
    go_ret
    exact ⟨rfl, n, rfl⟩
  · go_wp2_with fail
    refine Calls.mono (c2 n) ?_
    rintro e w2 ⟨rfl, n2, rfl⟩
    go_wp2_with fail
    go_ret
    exact ⟨ret_bool (by simp), n + n2, rfl⟩
end Go.Proofs.Ytadejhlljdcocaa
