/-
  place: what compares, rising, within.
-/
import Derived.Test.YtadejhlljdcocaaSortI
namespace Go.Proofs.Ytadejhlljdcocaa
open Go.RowKit
set_option linter.unusedVariables false
set_option linter.unusedSimpArgs false

theorem pinfo : (Try.prog.info? 3).map (fun i => (i.zero, i.size, i.bytes)) = some (some (.int .i64 0), 1, 8) := by kernel_rfl
theorem pcell {w : World} {b : Nat} {A : Array Value} {t : TypeId} {fr : Nat × Nat} (h : w.heap[b]? = some (.cells A t fr)) (i : Nat) {v : Value} (hv : A[i]? = some v) : w.cell? ⟨b, i, none⟩ = some v := by
  simp [World.cell?, h, hv]
theorem pfar {w : World} {p : Nat} {o' : Obj} (h : w.heap[p]? = some o') (o : Obj) : (w.alloc o).heap[p]? = some o' := ((Below.refl w.heap.size w).alloc (Nat.le_refl _) o).block p (lt_heap h) |>.trans h
def arr5 (ld : Nat → Int) : Array Value := #[.int .i64 (ld 0), .int .i64 (ld 1), .int .i64 (ld 2), .int .i64 (ld 3), .int .i64 (ld 4)]
theorem arr5_at (ld : Nat → Int) (k : Nat) (hk : k < 5) : (arr5 ld)[k]? = some (.int .i64 (ld k)) := by
  match k, hk with
  | 0, _ => rfl
  | 1, _ => rfl
  | 2, _ => rfl
  | 3, _ => rfl
  | 4, _ => rfl
def cmpL (ld : Nat → Int) (x y : Int) : Int := Lib.compareInt (ld x.toNat) (ld y.toNat)
set_option maxHeartbeats 800000 in
theorem rising1 (ld : Nat → Int) (bl : Nat) (x y : Int) (hx : 0 ≤ x ∧ x ≤ 4) (hy : 0 ≤ y ∧ y ≤ 4) (w : World) (h : w.heap[bl]? = some (.cells (arr5 ld) 118)) :
    Calls Try.prog 151 #[.int .i64 x, .int .i64 y, .pointer (some ⟨bl, 0, none⟩)] w fun e w' => e = .returned (.int .i64 (cmpL ld x y)) ∧ ∃ q, w' = w.drewN q := by
  obtain ⟨i, rfl⟩ := Int.eq_ofNat_of_zero_le hx.1
  obtain ⟨j, rfl⟩ := Int.eq_ofNat_of_zero_le hy.1
  have c1 := pcell h i (arr5_at ld i (by omega))
  have c2 := pcell h j (arr5_at ld j (by omega))
  unfold cmpL
  rw [Int.toNat_natCast, Int.toNat_natCast]
  have cc := fun q => Try.cmp_Compare_int (ld i) (ld j) (w.drewN q)
  have hi : i < 5 := by omega
  have hj : j < 5 := by omega
  generalize ld i = a at *
  generalize ld j = b at *
  generalize Lib.compareInt a b = c at *
  clear h
  go_enter Try.func151, Try.ntmps151
  go_wp2_with fail
  go_quiet (exact Calls.quiet_of_same (cc _))
  go_wp2_with fail
  go_ret
  exact ⟨rfl, _, rfl⟩
theorem pwithin (n least : Int) (w : World) : Calls Try.prog 152 #[.int .i64 n, .int .i64 least] w fun e w' => e = .returned (.int .i64 (min (max n least) 3)) ∧ w = w' := by
  go_enter Try.func152, Try.ntmps152
  go_wp2_with fail
  go_ret
  exact ⟨rfl, rfl⟩
theorem stableI0 (a : Option Addr) (cap : Nat) (f : Value) (w : World) : Calls Try.prog 150 #[.slice a 0 cap, f] w fun e w' => e = .returned (.tuple #[]) ∧ w = w' := by
  have ci : Calls Try.prog 206 #[.slice a 0 cap, .int .i64 0, .int .i64 0, f] w fun e w' => e = .returned (.tuple #[]) ∧ w = w' := by
    go_enter Try.func206, Try.ntmps206
    go_wp2_with fail
    go_loopw [8] (fun x wr => x = .int .i64 1 ∧ wr = w) (fun _ _ => 0)
    case atStart => exact ⟨rfl, rfl⟩
    case round =>
      obtain ⟨rfl, rfl⟩ := hrel
      go_wp2_with fail
      go_end0
      exact ⟨rfl, rfl⟩
  have cs : Calls Try.prog 187 #[.slice a 0 cap, .int .i64 0, f] w fun e w' => e = .returned (.tuple #[]) ∧ w = w' := by
    go_enter Try.func187, Try.ntmps187
    go_wp2_with fail
    go_loopw [7, 8] (fun x y wr => x = .int .i64 0 ∧ y = .int .i64 20 ∧ wr = w) (fun _ _ _ => 0)
    case atStart => exact ⟨rfl, rfl, rfl⟩
    case round =>
      obtain ⟨rfl, rfl, rfl⟩ := hrel
      go_wp2_with fail
      refine Calls.mono ci ?_
      rintro e w1 ⟨rfl, rfl⟩
      go_wp2_with fail
      go_loopw [6] (fun x wr2 => x = .int .i64 20 ∧ wr2 = wr) (fun _ _ => 0)
      case atStart => exact ⟨rfl, rfl⟩
      case round =>
        obtain ⟨rfl, rfl⟩ := hrel
        go_wp2_with fail
        go_end0
        exact ⟨rfl, rfl⟩
  clear ci
  go_enter Try.func150, Try.ntmps150
  go_wp2_with fail
  refine Calls.mono cs ?_
  rintro e w1 ⟨rfl, rfl⟩
  go_wp2_with fail
  go_end0
  exact ⟨rfl, rfl⟩
/-- the nodes that are up, below k -/
def upK (u : Nat → Bool) : Nat → List Int | 0 => [] | k + 1 => upK u k ++ if u k then [(k : Int)] else []
theorem upK_le (u : Nat → Bool) (k : Nat) : (upK u k).length ≤ k := by
  induction k with
  | zero => simp [upK]
  | succ k ih => simp only [upK, List.length_append]; split <;> simp <;> omega
theorem upK_mem (u : Nat → Bool) (k : Nat) (x : Int) : x ∈ upK u k ↔ ∃ i : Nat, i < k ∧ u i = true ∧ x = i := by
  induction k with
  | zero => simp [upK]
  | succ k ih =>
    simp only [upK, List.mem_append, ih]
    constructor
    · rintro (⟨i, h1, h2, h3⟩ | h)
      · exact ⟨i, by omega, h2, h3⟩
      · by_cases hu : u k = true
        · rw [if_pos hu] at h; simp at h; exact ⟨k, by omega, hu, h⟩
        · rw [if_neg hu] at h; simp at h
    · rintro ⟨i, h1, h2, h3⟩
      by_cases e : i = k
      · subst e; right; rw [if_pos h2]; simp [h3]
      · exact .inl ⟨i, by omega, h2, h3⟩
theorem upK_nodup (u : Nat → Bool) (k : Nat) : (upK u k).Nodup := by
  induction k with
  | zero => simp [upK]
  | succ k ih =>
    simp only [upK]
    split
    · rw [List.nodup_append]
      refine ⟨ih, by simp, fun a ha b hb => ?_⟩
      simp at hb
      subst hb
      obtain ⟨i, h1, _, rfl⟩ := (upK_mem u k a).1 ha
      omega
    · simpa using ih
def riseL (u : Nat → Bool) (ld : Nat → Int) : List Int := insTo (cmpL ld) (upK u 5) (upK u 5).length
def RisePost (u : Nat → Bool) (ld : Nat → Int) (w : World) (e : Ending) (w' : World) : Prop := ∃ v, e = .returned v ∧ SR w' v 1 (riseL u ld).length (nCells (riseL u ld)) ∧ Below w.heap.size w w'
theorem rowl_of {w : World} {base n : Nat} {v : Value} {l : List Int} (h : w.ownsRow base 3 1 v n (nCells l)) (hn : 1 ≤ n) (hl : l.length = n) : ∃ b cap, v = .slice (some ⟨b, 0, none⟩) n cap ∧ n ≤ cap ∧ cap ≤ maxLen ∧ base ≤ b ∧ b < w.heap.size ∧ RowL w b l ∧ (∃ cur, w.heap[b]? = some (.cells cur 3)) := by
  have hc := fun g => h.cells (g := g)
  rcases h.2 with ⟨rfl, rfl⟩ | ⟨g, cap, cur, rfl, hb, hg, hnc, hcm, hcs, ht⟩
  · omega
  · refine ⟨g, cap, rfl, hnc, hcm, hb, lt_heap hg, fun j hj => ⟨?_, by simp [World.frozen?, hg]⟩, cur, hg⟩
    have := hc g rfl j (.int .i64 (l.getD j 0)) (by simp [nCells, List.getD, hj])
    rw [add_off, Nat.zero_add] at this
    exact this
theorem RowL.sr {w : World} {b n cap : Nat} {l : List Int} (h : RowL w b l) (hl : l.length = n) (h1 : n ≤ cap) (h2 : cap ≤ maxLen) (hb : b < w.heap.size) : SR w (.slice (some ⟨b, 0, none⟩) n cap) 1 n (nCells l) := by
  refine ⟨_, cap, rfl, h1, h2, by rw [nCells_length, hl, Nat.mul_one], .inr ⟨b, 0, rfl, hb, fun j y hj => ?_⟩⟩
  have hjl : j < l.length := by
    have := (List.getElem?_eq_some_iff.1 hj).1
    rwa [nCells_length] at this
  rw [Nat.zero_add, (h j hjl).1, ← hj]
  simp [nCells, hjl, List.getD]
theorem owns_slice {w : World} {base size n : Nat} {e : TypeId} {v : Value} {xs : List Value} (h : w.ownsRow base e size v n xs) : ∃ a c, v = .slice a n c := by
  rcases h.2 with ⟨rfl, rfl⟩ | ⟨g, cap, _, rfl, _⟩
  · exact ⟨none, 0, rfl⟩
  · exact ⟨_, cap, rfl⟩
theorem sr_zero {w : World} {base size : Nat} {e : TypeId} {a : Option Addr} {c : Nat} {xs : List Value} (h : w.ownsRow base e size (.slice a 0 c) 0 xs) : SR w (.slice a 0 c) 1 0 (nCells []) := by
  have := SR.owns h
  obtain ⟨a', c', he, h1, h2, h3, h4⟩ := this
  injection he with e1 _ e3
  subst e1 e3
  exact ⟨a, c, rfl, h1, h2, rfl, .inl rfl⟩
set_option maxHeartbeats 3200000 in
set_option maxRecDepth 100000 in
theorem prising (u : Nat → Bool) (ld : Nat → Int) (w : World) :
    Calls Try.prog 109 #[.agg #[.bool (u 0), .bool (u 1), .bool (u 2), .bool (u 3), .bool (u 4)], .agg (arr5 ld)] w (RisePost u ld w) := by
  obtain ⟨i0, hi, hz0, hz1, hz2⟩ := info_parts pinfo
  have hb0 : Below w.heap.size w ((w.alloc (.cells #[.bool (u 0), .bool (u 1), .bool (u 2), .bool (u 3), .bool (u 4)] 111)).alloc (.cells (arr5 ld) 118)) := ((Below.refl _ _).alloc (Nat.le_refl _) _).alloc (by simp) _
  have hx := pfar (heap_alloc_self w (.cells #[.bool (u 0), .bool (u 1), .bool (u 2), .bool (u 3), .bool (u 4)] 111)) (.cells (arr5 ld) 118)
  have hy := heap_alloc_self (w.alloc (.cells #[.bool (u 0), .bool (u 1), .bool (u 2), .bool (u 3), .bool (u 4)] 111)) (.cells (arr5 ld) 118)
  have hz : (w.alloc (.cells #[.bool (u 0), .bool (u 1), .bool (u 2), .bool (u 3), .bool (u 4)] 111)).heap.size = w.heap.size + 1 := by simp
  rw [hz] at hy
  have x0 : ∀ w : World, (Instr.index 111 (.agg #[.bool (u 0), .bool (u 1), .bool (u 2), .bool (u 3), .bool (u 4)]) (.int .i64 0)).run Try.prog w = .ok (.bool (u 0)) w := fun _ => by kernel_rfl
  have x1 : ∀ w : World, (Instr.index 111 (.agg #[.bool (u 0), .bool (u 1), .bool (u 2), .bool (u 3), .bool (u 4)]) (.int .i64 1)).run Try.prog w = .ok (.bool (u 1)) w := fun _ => by kernel_rfl
  have x2 : ∀ w : World, (Instr.index 111 (.agg #[.bool (u 0), .bool (u 1), .bool (u 2), .bool (u 3), .bool (u 4)]) (.int .i64 2)).run Try.prog w = .ok (.bool (u 2)) w := fun _ => by kernel_rfl
  have x3 : ∀ w : World, (Instr.index 111 (.agg #[.bool (u 0), .bool (u 1), .bool (u 2), .bool (u 3), .bool (u 4)]) (.int .i64 3)).run Try.prog w = .ok (.bool (u 3)) w := fun _ => by kernel_rfl
  have x4 : ∀ w : World, (Instr.index 111 (.agg #[.bool (u 0), .bool (u 1), .bool (u 2), .bool (u 3), .bool (u 4)]) (.int .i64 4)).run Try.prog w = .ok (.bool (u 4)) w := fun _ => by kernel_rfl
  have HY := hy
  unfold arr5 at *
  go_enter Try.func109, Try.ntmps109
  go_upto_region 1 with fail
  generalize (w.alloc (.cells #[.bool (u 0), .bool (u 1), .bool (u 2), .bool (u 3), .bool (u 4)] 111)).alloc (.cells #[.int .i64 (ld 0), .int .i64 (ld 1), .int .i64 (ld 2), .int .i64 (ld 3), .int .i64 (ld 4)] 118) = wb at *
  have d0 := pcell hx 0 (v := .bool (u 0)) rfl
  have d1 := pcell hx 1 (v := .bool (u 1)) rfl
  have d2 := pcell hx 2 (v := .bool (u 2)) rfl
  have d3 := pcell hx 3 (v := .bool (u 3)) rfl
  have d4 := pcell hx 4 (v := .bool (u 4)) rfl
  have HX := Lib.hid (And.intro HY hb0)
  clear hx hy hz HY hb0
  go_wp2_with fail
  clear d0 d1 d2 d3 d4
  go_loopw [5, 9] (fun v i wr => ∃ k : Nat, k ≤ 5 ∧ i = .int .i64 k ∧ Hid (wr.ownsRow wb.heap.size 3 1 v (upK u k).length (nCells (upK u k)) ∧ Below wb.heap.size wb wr)) (fun _ i _ => 5 - (intOf i).toNat)
  case atStart => exact ⟨0, by decide, rfl, Lib.hid ⟨World.ownsRow_nil _ _ _ _, Below.refl _ _⟩⟩
  case round =>
    obtain ⟨k, hk, rfl, HR⟩ := hrel
    have hul := upK_le u k
    have hws := HR.out.2.size
    rcases (by omega : k = 5 ∨ k = 0 ∨ k = 1 ∨ k = 2 ∨ k = 3 ∨ k = 4) with rfl | rfl | rfl | rfl | rfl | rfl
    · rw [show ((5 : Nat) : Int) = 5 from rfl]
      obtain ⟨nn, hnn⟩ : ∃ nn, (upK u 5).length = nn := ⟨_, rfl⟩
      have HO := HR.out.1
      rw [hnn] at HO hul
      have HNN := Lib.hid hnn
      have hB5 := HR.out.2
      clear hnn
      obtain ⟨av, cv, rfl⟩ := owns_slice HO
      clear x0 x1 x2 x3 x4
      by_cases hn0 : nn = 0
      · subst hn0
        have cs := fun f => stableI0 av cv f wr
        have hnil : riseL u ld = [] := by unfold riseL; rw [HNN.out]; exact List.eq_nil_of_length_eq_zero HNN.out
        have HF := Lib.hid (show SR wr (.slice av 0 cv) 1 (riseL u ld).length (nCells (riseL u ld)) ∧ Below w.heap.size w wr from ⟨by rw [hnil]; exact sr_zero HO, HX.out.2.trans (hB5.mono HX.out.2.size)⟩)
        clear HO hnil hB5
        go_upto_region 8 with fail
        go_wp2_with fail
        refine Calls.mono (cs _) ?_
        rintro e w3 ⟨rfl, rfl⟩
        go_wp2_with fail
        go_ret
        exact ⟨_, rfl, HF.out⟩
      · obtain ⟨b, cap, he, hnc, hcm, hbb, hbl, hrow, -⟩ := rowl_of HO (by omega) HNN.out
        injection he with e1 _ e3
        subst e1 e3
        have hbd : ∀ x ∈ upK u 5, 0 ≤ x ∧ x ≤ 4 := fun x hx => by
          obtain ⟨i, h1, _, rfl⟩ := (upK_mem u 5 x).1 hx
          omega
        have hlb := lt_heap HX.out.1
        have hL := below_at hB5 hlb HX.out.1
        have cs := stableI 151 #[.pointer (some ⟨w.heap.size + 1, 0, none⟩)] (cmpL ld) (fun w' => w'.heap[w.heap.size + 1]? = some (.cells (arr5 ld) 118)) b nn cv (upK u 5) wr HNN.out (by omega) (by omega) hrow hL (fun _ _ => by rfl) (fun h1 h2 => (h2.block _ (lt_heap h1) (by omega)).trans h1) (fun x y w' hx hy hr => rising1 ld _ x y (hbd x hx) (hbd y hy) w' hr)
        have HB5 := Lib.hid (And.intro hB5 (And.intro hbb (And.intro hnc (And.intro hcm hbl))))
        clear hrow hbd hL HO hB5 hbb hnc hcm hbl hlb
        go_upto_region 8 with fail
        go_wp2_with fail
        refine Calls.mono cs ?_
        rintro e w3 ⟨rfl, h3⟩
        obtain ⟨h31, h32, h33, h34, h35⟩ := HB5.out
        have hlen : (insTo (cmpL ld) (upK u 5) nn).length = nn := by rw [insTo_len, HNN.out]
        have HF := Lib.hid (show SR w3 (.slice (some ⟨b, 0, none⟩) nn cv) 1 (riseL u ld).length (nCells (riseL u ld)) ∧ Below w.heap.size w w3 from ⟨by
            have he : riseL u ld = insTo (cmpL ld) (upK u 5) nn := by unfold riseL; rw [HNN.out]
            rw [he, hlen]
            exact h3.row.sr hlen h33 h34 (Nat.lt_of_lt_of_le h35 h3.only.size), HX.out.2.trans ((h31.mono HX.out.2.size).trans ((h3.only.below (B := w.heap.size) (by have := HX.out.2.size; omega) (by have := HX.out.2.size; have := h31.size; omega))))⟩)
        clear h3 h31 h32 h33 h34 h35 hlen cs
        go_wp2_with fail
        go_ret
        exact ⟨_, rfl, HF.out⟩
    · rw [show ((0 : Nat) : Int) = 0 from rfl]
      obtain ⟨q, hq⟩ : ∃ q, u 0 = q := ⟨_, rfl⟩
      have hup : upK u 1 = upK u 0 ++ if u 0 then [((0 : Nat) : Int)] else [] := rfl
      rw [hq] at hup
      have xx : ∀ w : World, (Instr.index 111 (.agg #[.bool (u 0), .bool (u 1), .bool (u 2), .bool (u 3), .bool (u 4)]) (.int .i64 0)).run Try.prog w = .ok (.bool q) w := fun w => by rw [← hq]; exact x0 w
      have HU := Lib.hid hup
      clear hq hup x0 x1 x2 x3 x4
      cases q
      · go_wp2_with fail
        go_roundw
        case rel => exact ⟨1, by decide, rfl, by rw [HU.out]; simpa using HR⟩
        case measure => simp [intOf]
      · obtain ⟨nn, hnn⟩ : ∃ nn, (upK u 0).length = nn := ⟨_, rfl⟩
        have HO := HR.out.1
        rw [hnn] at HO hul
        have HO' := Lib.hid HO
        have HNN := Lib.hid hnn
        clear HO hnn
        go_wp2_with (at_builtin; refine wp_app Try.underlying29 hi hz0 hz1 hz2 rfl (by decide) rfl (.tmp 14) (.tmp 16) rfl wb.heap.size _ nn (nCells (upK u 0)) rfl (HO'.out.alloc _) _ 1 [.int .i64 0] rfl (SR.lit _ _ #[.int .i64 0] 1 1 (by decide) rfl) ?c1 ?c2 ?c3 ?c4 ?_)
        case c1 => first | rfl | (intro y hy; simp at hy; subst hy; rfl)
        case c2 => unfold maxLen; omega
        case c3 => omega
        case c4 => first | omega | (simp; omega)
        intro v' w9 hown hgr
        have HF := Lib.hid (show w9.ownsRow wb.heap.size 3 1 v' (upK u 1).length (nCells (upK u 1)) ∧ Below wb.heap.size wb w9 from ⟨by
          rw [HU.out, if_pos trivial, List.length_append, HNN.out, ← nCells_append]; exact hown, below_app (HR.out.2.alloc hws _) hgr (HO'.out.alloc _) (Nat.le_refl _) (by simp; omega)⟩)
        clear hown hgr
        go_wp2_with fail
        go_roundw
        case rel => exact ⟨1, by decide, rfl, HF⟩
        case measure => simp [intOf]
    · rw [show ((1 : Nat) : Int) = 1 from rfl]
      obtain ⟨q, hq⟩ : ∃ q, u 1 = q := ⟨_, rfl⟩
      have hup : upK u 2 = upK u 1 ++ if u 1 then [((1 : Nat) : Int)] else [] := rfl
      rw [hq] at hup
      have xx : ∀ w : World, (Instr.index 111 (.agg #[.bool (u 0), .bool (u 1), .bool (u 2), .bool (u 3), .bool (u 4)]) (.int .i64 1)).run Try.prog w = .ok (.bool q) w := fun w => by rw [← hq]; exact x1 w
      have HU := Lib.hid hup
      clear hq hup x0 x1 x2 x3 x4
      cases q
      · go_wp2_with fail
        go_roundw
        case rel => exact ⟨2, by decide, rfl, by rw [HU.out]; simpa using HR⟩
        case measure => simp [intOf]
      · obtain ⟨nn, hnn⟩ : ∃ nn, (upK u 1).length = nn := ⟨_, rfl⟩
        have HO := HR.out.1
        rw [hnn] at HO hul
        have HO' := Lib.hid HO
        have HNN := Lib.hid hnn
        clear HO hnn
        go_wp2_with (at_builtin; refine wp_app Try.underlying29 hi hz0 hz1 hz2 rfl (by decide) rfl (.tmp 14) (.tmp 16) rfl wb.heap.size _ nn (nCells (upK u 1)) rfl (HO'.out.alloc _) _ 1 [.int .i64 1] rfl (SR.lit _ _ #[.int .i64 1] 1 1 (by decide) rfl) ?c1 ?c2 ?c3 ?c4 ?_)
        case c1 => first | rfl | (intro y hy; simp at hy; subst hy; rfl)
        case c2 => unfold maxLen; omega
        case c3 => omega
        case c4 => first | omega | (simp; omega)
        intro v' w9 hown hgr
        have HF := Lib.hid (show w9.ownsRow wb.heap.size 3 1 v' (upK u 2).length (nCells (upK u 2)) ∧ Below wb.heap.size wb w9 from ⟨by
          rw [HU.out, if_pos trivial, List.length_append, HNN.out, ← nCells_append]; exact hown, below_app (HR.out.2.alloc hws _) hgr (HO'.out.alloc _) (Nat.le_refl _) (by simp; omega)⟩)
        clear hown hgr
        go_wp2_with fail
        go_roundw
        case rel => exact ⟨2, by decide, rfl, HF⟩
        case measure => simp [intOf]
    · rw [show ((2 : Nat) : Int) = 2 from rfl]
      obtain ⟨q, hq⟩ : ∃ q, u 2 = q := ⟨_, rfl⟩
      have hup : upK u 3 = upK u 2 ++ if u 2 then [((2 : Nat) : Int)] else [] := rfl
      rw [hq] at hup
      have xx : ∀ w : World, (Instr.index 111 (.agg #[.bool (u 0), .bool (u 1), .bool (u 2), .bool (u 3), .bool (u 4)]) (.int .i64 2)).run Try.prog w = .ok (.bool q) w := fun w => by rw [← hq]; exact x2 w
      have HU := Lib.hid hup
      clear hq hup x0 x1 x2 x3 x4
      cases q
      · go_wp2_with fail
        go_roundw
        case rel => exact ⟨3, by decide, rfl, by rw [HU.out]; simpa using HR⟩
        case measure => simp [intOf]
      · obtain ⟨nn, hnn⟩ : ∃ nn, (upK u 2).length = nn := ⟨_, rfl⟩
        have HO := HR.out.1
        rw [hnn] at HO hul
        have HO' := Lib.hid HO
        have HNN := Lib.hid hnn
        clear HO hnn
        go_wp2_with (at_builtin; refine wp_app Try.underlying29 hi hz0 hz1 hz2 rfl (by decide) rfl (.tmp 14) (.tmp 16) rfl wb.heap.size _ nn (nCells (upK u 2)) rfl (HO'.out.alloc _) _ 1 [.int .i64 2] rfl (SR.lit _ _ #[.int .i64 2] 1 1 (by decide) rfl) ?c1 ?c2 ?c3 ?c4 ?_)
        case c1 => first | rfl | (intro y hy; simp at hy; subst hy; rfl)
        case c2 => unfold maxLen; omega
        case c3 => omega
        case c4 => first | omega | (simp; omega)
        intro v' w9 hown hgr
        have HF := Lib.hid (show w9.ownsRow wb.heap.size 3 1 v' (upK u 3).length (nCells (upK u 3)) ∧ Below wb.heap.size wb w9 from ⟨by
          rw [HU.out, if_pos trivial, List.length_append, HNN.out, ← nCells_append]; exact hown, below_app (HR.out.2.alloc hws _) hgr (HO'.out.alloc _) (Nat.le_refl _) (by simp; omega)⟩)
        clear hown hgr
        go_wp2_with fail
        go_roundw
        case rel => exact ⟨3, by decide, rfl, HF⟩
        case measure => simp [intOf]
    · rw [show ((3 : Nat) : Int) = 3 from rfl]
      obtain ⟨q, hq⟩ : ∃ q, u 3 = q := ⟨_, rfl⟩
      have hup : upK u 4 = upK u 3 ++ if u 3 then [((3 : Nat) : Int)] else [] := rfl
      rw [hq] at hup
      have xx : ∀ w : World, (Instr.index 111 (.agg #[.bool (u 0), .bool (u 1), .bool (u 2), .bool (u 3), .bool (u 4)]) (.int .i64 3)).run Try.prog w = .ok (.bool q) w := fun w => by rw [← hq]; exact x3 w
      have HU := Lib.hid hup
      clear hq hup x0 x1 x2 x3 x4
      cases q
      · go_wp2_with fail
        go_roundw
        case rel => exact ⟨4, by decide, rfl, by rw [HU.out]; simpa using HR⟩
        case measure => simp [intOf]
      · obtain ⟨nn, hnn⟩ : ∃ nn, (upK u 3).length = nn := ⟨_, rfl⟩
        have HO := HR.out.1
        rw [hnn] at HO hul
        have HO' := Lib.hid HO
        have HNN := Lib.hid hnn
        clear HO hnn
        go_wp2_with (at_builtin; refine wp_app Try.underlying29 hi hz0 hz1 hz2 rfl (by decide) rfl (.tmp 14) (.tmp 16) rfl wb.heap.size _ nn (nCells (upK u 3)) rfl (HO'.out.alloc _) _ 1 [.int .i64 3] rfl (SR.lit _ _ #[.int .i64 3] 1 1 (by decide) rfl) ?c1 ?c2 ?c3 ?c4 ?_)
        case c1 => first | rfl | (intro y hy; simp at hy; subst hy; rfl)
        case c2 => unfold maxLen; omega
        case c3 => omega
        case c4 => first | omega | (simp; omega)
        intro v' w9 hown hgr
        have HF := Lib.hid (show w9.ownsRow wb.heap.size 3 1 v' (upK u 4).length (nCells (upK u 4)) ∧ Below wb.heap.size wb w9 from ⟨by
          rw [HU.out, if_pos trivial, List.length_append, HNN.out, ← nCells_append]; exact hown, below_app (HR.out.2.alloc hws _) hgr (HO'.out.alloc _) (Nat.le_refl _) (by simp; omega)⟩)
        clear hown hgr
        go_wp2_with fail
        go_roundw
        case rel => exact ⟨4, by decide, rfl, HF⟩
        case measure => simp [intOf]
    · rw [show ((4 : Nat) : Int) = 4 from rfl]
      obtain ⟨q, hq⟩ : ∃ q, u 4 = q := ⟨_, rfl⟩
      have hup : upK u 5 = upK u 4 ++ if u 4 then [((4 : Nat) : Int)] else [] := rfl
      rw [hq] at hup
      have xx : ∀ w : World, (Instr.index 111 (.agg #[.bool (u 0), .bool (u 1), .bool (u 2), .bool (u 3), .bool (u 4)]) (.int .i64 4)).run Try.prog w = .ok (.bool q) w := fun w => by rw [← hq]; exact x4 w
      have HU := Lib.hid hup
      clear hq hup x0 x1 x2 x3 x4
      cases q
      · go_wp2_with fail
        go_roundw
        case rel => exact ⟨5, by decide, rfl, by rw [HU.out]; simpa using HR⟩
        case measure => simp [intOf]
      · obtain ⟨nn, hnn⟩ : ∃ nn, (upK u 4).length = nn := ⟨_, rfl⟩
        have HO := HR.out.1
        rw [hnn] at HO hul
        have HO' := Lib.hid HO
        have HNN := Lib.hid hnn
        clear HO hnn
        go_wp2_with (at_builtin; refine wp_app Try.underlying29 hi hz0 hz1 hz2 rfl (by decide) rfl (.tmp 14) (.tmp 16) rfl wb.heap.size _ nn (nCells (upK u 4)) rfl (HO'.out.alloc _) _ 1 [.int .i64 4] rfl (SR.lit _ _ #[.int .i64 4] 1 1 (by decide) rfl) ?c1 ?c2 ?c3 ?c4 ?_)
        case c1 => first | rfl | (intro y hy; simp at hy; subst hy; rfl)
        case c2 => unfold maxLen; omega
        case c3 => omega
        case c4 => first | omega | (simp; omega)
        intro v' w9 hown hgr
        have HF := Lib.hid (show w9.ownsRow wb.heap.size 3 1 v' (upK u 5).length (nCells (upK u 5)) ∧ Below wb.heap.size wb w9 from ⟨by
          rw [HU.out, if_pos trivial, List.length_append, HNN.out, ← nCells_append]; exact hown, below_app (HR.out.2.alloc hws _) hgr (HO'.out.alloc _) (Nat.le_refl _) (by simp; omega)⟩)
        clear hown hgr
        go_wp2_with fail
        go_roundw
        case rel => exact ⟨5, by decide, rfl, HF⟩
        case measure => simp [intOf]
end Go.Proofs.Ytadejhlljdcocaa
