/-
  Several texts, laid together.
-/
import Derived.Test.YtgnnijpfkgmomaaGreatDoorItem
import Derived.Test.YtgnnijpfkgmomaaGreatDoorBytes
import Derived.Test.YtgnnijpfkgmomaaGreatDoorJrB
import Derived.Test.YtgnnijpfkgmomaaGreatDoorHeld
import Derived.Deep.QuietTactic
import Derived.BigQuiet
/-
  item: Of; Block: a block's bytes.
-/


namespace Go.Proofs.YtgnnijpfkgmomaaGreatDoor
open Go.RowKit
set_option linter.unusedVariables false
set_option linter.unusedSimpArgs false

theorem bCells_set (l : List UInt8) (i : Nat) (c : UInt8) : (bCells l).toArray.setIfInBounds i (.int .u8 c.toNat) = (bCells (l.set i c)).toArray := by
  simp [bCells, List.map_set]
theorem block_step {w wr : World} {G j : Nat} {l : List UInt8} {c : UInt8} {t : TypeId} (hl : l.length = 32) (hx : wr.heap[G]? = some (.cells (bCells l).toArray t)) (hb : Below G w wr) :
    ∃ l' : List UInt8, l'.length = 32 ∧ (wr.setCell ⟨G, j, none⟩ (.int .u8 c.toNat)).heap[G]? = some (.cells (bCells l').toArray t) ∧ Below G w (wr.setCell ⟨G, j, none⟩ (.int .u8 c.toNat)) :=
  ⟨l.set j c, by rw [List.length_set]; exact hl, by rw [heap_set_self hx, bCells_set], hb.setCell (Nat.le_refl _) _⟩
theorem conv_block {P : Program} {src dst e : TypeId} (hs : P.underlying src = some (.slice e)) (he : P.underlying e = some (.int .u8)) (hd : P.underlying dst = some .string) {w : World} {g n : Nat} {l : List UInt8} {t : TypeId} {fr : Nat × Nat} (c : Nat) (hn : n = l.length)
    (h : w.heap[g]? = some (.cells (bCells l).toArray t fr)) : (convert src dst (.slice (some ⟨g, 0, none⟩) n c)).run P w = .ok (.string ⟨l.toArray⟩) w := by
  subst hn
  refine run_convert_bytes_back w src dst e ⟨g, 0, none⟩ c l hs he hd fun j hj => ?_
  have e1 : (⟨g, 0, none⟩ : Addr).add j = ⟨g, j, none⟩ := by unfold Addr.add; split <;> simp_all
  rw [e1]
  simp [World.cell?, h, bCells, hj]
end Go.Proofs.YtgnnijpfkgmomaaGreatDoor
/-
  disk: no disk; sizes that may not be; Sector.
-/

namespace Go.Proofs.YtgnnijpfkgmomaaGreatDoor
open Go.RowKit
set_option linter.unusedVariables false
set_option linter.unusedSimpArgs false

theorem dsectors0 (w : World) : Calls Tryz.prog 24 #[.pointer none] w fun e w' => e = .returned (.int .i64 0) ∧ w = w' := by
  go_enter Tryz.func24, Tryz.ntmps24
  go_wp2_with fail
  go_ret
  exact ⟨rfl, rfl⟩
theorem dhas0 (n : Int) (w : World) : Calls Tryz.prog 99 #[.pointer none, .int .i64 n] w fun e w' => e = .returned (.bool false) ∧ w = w' := by
  have c := fun w => dsectors0 w
  by_cases h : 0 ≤ n
  · have h2 : ¬ n < 0 := by omega
    go_enter Tryz.func99, Tryz.ntmps99
    go_wp2_with fail
    refine Calls.mono (c _) ?_
    rintro e w2 ⟨rfl, rfl⟩
    go_wp2_with fail
    go_ret
    exact ⟨by first | rfl | exact ret_bool (by simp; omega), rfl⟩
  · have h2 : n < 0 := by omega
    go_enter Tryz.func99, Tryz.ntmps99
    go_wp2_with fail
    go_ret
    exact ⟨rfl, rfl⟩
theorem dread0 (n : Int) (w : World) : Calls Tryz.prog 80 #[.pointer none, .int .i64 n] w fun e w' => e = .returned (.tuple #[.string ⟨#[]⟩, .int .i64 1]) ∧ Below w.heap.size w w' := by
  have c := fun w => dhas0 n w
  go_enter Tryz.func80, Tryz.ntmps80
  go_wp2_with fail
  refine Calls.mono (c _) ?_
  rintro e w2 ⟨rfl, rfl⟩
  go_wp2_with fail
  go_returns
  exact ⟨rfl, by go_grown⟩
theorem dwrite0 (n : Int) (s : ByteArray) (w : World) : Calls Tryz.prog 90 #[.pointer none, .int .i64 n, .string s] w fun e w' => e = .returned (.int .i64 1) ∧ w = w' := by
  have c := fun w => dhas0 n w
  go_enter Tryz.func90, Tryz.ntmps90
  go_wp2_with fail
  refine Calls.mono (c _) ?_
  rintro e w2 ⟨rfl, rfl⟩
  go_wp2_with fail
  go_ret
  exact ⟨rfl, rfl⟩
theorem dnew_bad (n : Int) (w : World) (h : n < 1 ∨ 4096 < n) : Calls Tryz.prog 6 #[.int .i64 n] w fun e w' => e = .returned (.tuple #[.pointer none, .int .i64 1]) ∧ w = w' := by
  rcases h with h | h
  · go_enter Tryz.func6, Tryz.ntmps6
    go_wp2_with fail
    go_returns
    exact ⟨rfl, rfl⟩
  · have h2 : ¬ n < 1 := by omega
    go_enter Tryz.func6, Tryz.ntmps6
    go_wp2_with fail
    go_returns
    exact ⟨rfl, rfl⟩
theorem dend0 (f : Value) (w : World) : Calls Tryz.prog 41 #[.pointer none, f] w fun e w' => e = .returned (.tuple #[]) ∧ w = w' := by
  go_enter Tryz.func41, Tryz.ntmps41
  go_wp2_with fail
  go_returns
  exact ⟨rfl, rfl⟩
theorem dwipe0 (w : World) : Calls Tryz.prog 23 #[.pointer none] w fun e w' => e = .returned (.tuple #[]) ∧ w = w' := by
  go_enter Tryz.func23, Tryz.ntmps23
  go_wp2_with fail
  go_returns
  exact ⟨rfl, rfl⟩
theorem dsync0 (w : World) : Calls Tryz.prog 39 #[.pointer none] w fun e w' => e = .returned (.tuple #[]) ∧ w = w' := by
  go_enter Tryz.func39, Tryz.ntmps39
  go_wp2_with fail
  refine Calls.mono (dend0 _ _) ?_
  rintro e w2 ⟨rfl, rfl⟩
  go_wp2_with fail
  go_returns
  exact ⟨rfl, rfl⟩
theorem dcrash0 (u : Int) (w : World) : Calls Tryz.prog 14 #[.pointer none, .int .u64 u] w fun e w' => e = .returned (.tuple #[]) ∧ Below w.heap.size w w' := by
  go_enter Tryz.func14, Tryz.ntmps14
  go_wp2_with fail
  refine Calls.mono (dend0 _ _) ?_
  rintro e w2 ⟨rfl, rfl⟩
  go_wp2_with fail
  go_returns
  exact ⟨rfl, by go_grown⟩
end Go.Proofs.YtgnnijpfkgmomaaGreatDoor
/-
  journal: find: where a key's pair is.
-/



namespace Go.Proofs.YtgnnijpfkgmomaaGreatDoor
open Go.RowKit
set_option linter.unusedVariables false
set_option linter.unusedSimpArgs false

instance : Inhabited JP := ⟨⟨⟨#[]⟩, ⟨#[]⟩⟩⟩
def pCells (l : List JP) : List Value := l.flatMap JP.c
theorem pCells_app (a b : List JP) : pCells (a ++ b) = pCells a ++ pCells b := by simp [pCells]
theorem pCells_one (l : List JP) : ∀ y ∈ pCells l, y.oneCell' = true := by
  intro y hy
  simp only [pCells, List.mem_flatMap] at hy
  obtain ⟨u, hu, hy⟩ := hy
  simp only [JP.c, List.mem_cons, List.not_mem_nil, or_false] at hy
  rcases hy with rfl | rfl <;> rfl
theorem pCells_len : ∀ l : List JP, (pCells l).length = l.length * 2
  | [] => rfl
  | x :: l => by
    show (JP.c x ++ pCells l).length = _
    rw [List.length_append, pCells_len l, List.length_cons, Nat.succ_mul]
    show 2 + l.length * 2 = _
    omega
theorem pCells_at : ∀ (l : List JP) (k : Nat) (x : JP), l[k]? = some x → (pCells l)[k * 2]? = some (.string x.k) ∧ (pCells l)[k * 2 + 1]? = some (.string x.v)
  | [], k, x, h => by simp at h
  | y :: l, 0, x, h => by
    obtain rfl : y = x := by simpa using h
    exact ⟨rfl, rfl⟩
  | y :: l, k + 1, x, h => by
    obtain ⟨h1, h2⟩ := pCells_at l k x (by simpa using h)
    have e : pCells (y :: l) = JP.c y ++ pCells l := by simp [pCells]
    have e2 : (JP.c y).length = 2 := rfl
    rw [e, List.getElem?_append_right (by omega), List.getElem?_append_right (by omega), e2, show (k + 1) * 2 - 2 = k * 2 by omega, show (k + 1) * 2 + 1 - 2 = k * 2 + 1 by omega]
    exact ⟨h1, h2⟩
theorem sr_block_J {w : World} {a : Option Addr} {len cap : Nat} {l : List JP} (h : SR w (.slice a len cap) 2 len (pCells l)) (h0 : 0 < len) :
    ∃ b off, a = some ⟨b, off, none⟩ ∧ b < w.heap.size ∧ l.length = len ∧ ∀ k x, l[k]? = some x → w.cell? ⟨b, off + k * 2, none⟩ = some (.string x.k) ∧ w.cell? ⟨b, off + k * 2 + 1, none⟩ = some (.string x.v) := by
  obtain ⟨a', cap', he, h1, h2, h3, h4⟩ := h
  injection he with e1 _ e2
  subst e1 e2
  have hl : l.length = len := by rw [pCells_len] at h3; omega
  rcases h4 with h4 | ⟨b, off, rfl, hb, hc⟩
  · omega
  · refine ⟨b, off, rfl, hb, hl, fun k x hx => ?_⟩
    obtain ⟨c0, c1⟩ := pCells_at l k x hx
    exact ⟨hc _ _ c0, by have := hc _ _ c1; rwa [← Nat.add_assoc] at this⟩
def cmpK (x y : ByteArray) : Int := if ltK x y = true then -1 else if ltK y x = true then 1 else 0
theorem cmpK_lt {x y : ByteArray} : cmpK x y < 0 ↔ ltK x y = true := by
  unfold cmpK
  split
  · simp [*]
  · split <;> simp [*]
theorem cmpK_eq {x y : ByteArray} : cmpK x y = 0 ↔ x = y := by
  unfold cmpK
  constructor
  · intro h
    rcases ltK_tri x y with q | q | q
    · rw [if_pos q] at h; cases h
    · exact q
    · have hn : ¬ ltK x y = true := fun c => by have := ltK_trans c q; rw [ltK_irr] at this; cases this
      rw [if_neg hn, if_pos q] at h; cases h
  · rintro rfl
    rw [ltK_irr]
    rfl
theorem nan_str (x : ByteArray) (w : World) : Calls Tryz.prog 94 #[.string x] w fun e w' => e = .returned (.bool false) ∧ w = w' := by
  go_enter Tryz.func94, Tryz.ntmps94
  go_wp2_with fail
  go_ret
  exact ⟨by simp, rfl⟩
theorem compare_str (x y : ByteArray) (w : World) : Calls Tryz.prog 76 #[.string x, .string y] w fun e w' => e = .returned (.int .i64 (cmpK x y)) ∧ w = w' := by
  unfold cmpK
  have c1 := nan_str x
  have c2 := nan_str y
  rcases ltK_tri x y with h | h | h
  · rw [if_pos h]
    unfold ltK at h
    go_enter Tryz.func76, Tryz.ntmps76
    go_wp2_with fail
    refine Calls.mono (c1 _) ?_
    rintro e w1 ⟨rfl, rfl⟩
    go_wp2_with fail
    refine Calls.mono (c2 _) ?_
    rintro e w1 ⟨rfl, rfl⟩
    go_wp2_with fail
    go_ret
    exact ⟨rfl, rfl⟩
  · subst h
    rw [ltK_irr, if_neg (by simp), if_neg (by simp)]
    have h := ltL_irr x.toList
    have h2 : (x.toList == x.toList) = true := by simp
    go_enter Tryz.func76, Tryz.ntmps76
    go_wp2_with fail
    refine Calls.mono (c1 _) ?_
    rintro e w1 ⟨rfl, rfl⟩
    go_wp2_with fail
    refine Calls.mono (c2 _) ?_
    rintro e w1 ⟨rfl, rfl⟩
    go_wp2_with fail
    go_ret
    exact ⟨rfl, rfl⟩
  · have hn : ltK x y = false := by
      cases hh : ltK x y
      · rfl
      · have := ltK_trans hh h; rw [ltK_irr] at this; cases this
    have hne : (x.toList == y.toList) = false := by
      cases hh : x.toList == y.toList
      · rfl
      · have := toL_inj (by simpa using hh : x.toList = y.toList)
        rw [this, ltK_irr] at h
        cases h
    rw [hn, if_neg (by simp), if_pos h]
    unfold ltK at hn
    go_enter Tryz.func76, Tryz.ntmps76
    go_wp2_with fail
    refine Calls.mono (c1 _) ?_
    rintro e w1 ⟨rfl, rfl⟩
    go_wp2_with fail
    refine Calls.mono (c2 _) ?_
    rintro e w1 ⟨rfl, rfl⟩
    go_wp2_with fail
    go_ret
    exact ⟨rfl, rfl⟩
theorem find_closJ (h : JP) (b : ByteArray) (w : World) : Calls Tryz.prog 75 #[.agg #[.string h.k, .string h.v], .string b] w fun e w' => e = .returned (.int .i64 (cmpK h.k b)) ∧ Below w.heap.size w w' := by
  go_enter Tryz.func75, Tryz.ntmps75
  go_wp2_with fail
  refine Calls.mono (compare_str h.k b _) ?_
  rintro e w1 ⟨rfl, rfl⟩
  go_wp2_with fail
  go_ret
  exact ⟨rfl, by go_grown⟩
set_option maxHeartbeats 1600000 in
set_option maxRecDepth 100000 in
/-- slices.BinarySearchFunc with find's own comparison, of a list of which the first n lie ahead of the block -/
theorem search_J (l : List JP) (b : ByteArray) (n : Nat) (hn : n ≤ l.length) (hA : ∀ h ∈ l.take n, ltK h.k b = true) (hB : ∀ h ∈ l.drop n, ltK h.k b = false) (w : World) (v : Value) (hv : SR w v 2 l.length (pCells l)) (hl : l.length ≤ 1000000) :
    Calls Tryz.prog 74 #[v, .string b, .func (.func 75) #[] #[]] w fun e w' =>
      e = .returned (.tuple #[.int .i64 n, .bool (decide (n < l.length) && decide (l[n]!.k = b))]) ∧ Below w.heap.size w w' := by
  obtain ⟨a, cap, rfl, hlc, hcm⟩ := hv.form
  unfold maxLen at hcm
  have eg : ∀ args w, (callFunc 75 args).run Tryz.prog w = .ok (.enter 75 args) w := fun _ _ => by rfl
  have HV := Lib.hid hv
  have hA' : ∀ t, t < n → ltK l[t]!.k b = true := fun t ht => by
    have ht2 : t < l.length := by omega
    rw [getElem!_pos l t ht2]
    exact hA _ (List.mem_take_iff_getElem.2 ⟨t, by omega, rfl⟩)
  have hB' : ∀ t, n ≤ t → t < l.length → ltK l[t]!.k b = false := fun t h1 h2 => by
    rw [getElem!_pos l t h2]
    refine hB _ (List.mem_drop_iff_getElem.2 ⟨t - n, by omega, ?_⟩)
    congr 1
    omega
  have HA := Lib.hid hA'
  have HB := Lib.hid hB'
  obtain ⟨fin, hfin⟩ : ∃ fin, (decide (n < l.length) && decide (l[n]!.k = b)) = fin := ⟨_, rfl⟩
  rw [hfin]
  have FIN := Lib.hid hfin
  clear hv hA hB hA' hB' hfin
  go_enter Tryz.func74, Tryz.ntmps74
  go_wp2_with fail
  go_loopw [9, 10] (fun s9 s10 wr => ∃ lo hi : Nat, s9 = .int .i64 lo ∧ s10 = .int .i64 hi ∧ lo ≤ n ∧ n ≤ hi ∧ hi ≤ l.length ∧ Below w.heap.size w wr) (fun s9 s10 _ => (intOf s10).toNat - (intOf s9).toNat)
  case atStart => exact ⟨0, l.length, rfl, rfl, by omega, hn, Nat.le_refl _, Below.refl _ _⟩
  case round =>
    obtain ⟨lo, hi, rfl, rfl, hlo, hhi, hhl, hb⟩ := hrel
    have HBr := Lib.hid hb
    have hsr := HV.out.below hb
    clear hb
    by_cases hlt : lo < hi
    · obtain ⟨blk, off, rfl, hblk, -, hc⟩ := sr_block_J hsr (by omega)
      obtain ⟨x, hx⟩ : ∃ x, l[(lo + hi) / 2]? = some x := ⟨_, List.getElem?_eq_getElem (by omega)⟩
      obtain ⟨c0, c1⟩ := hc _ _ hx
      have hxx : l[(lo + hi) / 2]! = x := by rw [getElem!_pos l _ (by omega)]; rw [List.getElem?_eq_getElem (by omega)] at hx; exact Option.some.inj hx
      have HX := Lib.hid hxx
      clear hc hx hxx hsr
      have hcl := fun w => find_closJ x b w
      by_cases hyx : cmpK x.k b < 0
      · have hq : (lo + hi) / 2 < n := by
          rcases Nat.lt_or_ge ((lo + hi) / 2) n with h | h
          · exact h
          · have := HB.out _ h (by omega)
            rw [HX.out] at this
            rw [cmpK_lt, this] at hyx
            cases hyx
        go_wp2_with fail
        refine Calls.mono (hcl _) ?_
        rintro e w' ⟨rfl, hb2⟩
        have HB2 := Lib.hid hb2
        clear hb2
        go_wp2_with fail
        go_roundw
        case rel => exact ⟨(lo + hi) / 2 + 1, hi, by go_num, rfl, by omega, hhi, hhl, HBr.out.trans (HB2.out.mono HBr.out.size)⟩
        case measure => simp [intOf]; omega
      · have hq : n ≤ (lo + hi) / 2 := by
          rcases Nat.lt_or_ge ((lo + hi) / 2) n with h | h
          · have := HA.out _ h
            rw [HX.out] at this
            rw [cmpK_lt] at hyx
            exact absurd this hyx
          · exact h
        go_wp2_with fail
        refine Calls.mono (hcl _) ?_
        rintro e w' ⟨rfl, hb2⟩
        have HB2 := Lib.hid hb2
        clear hb2
        go_wp2_with fail
        go_roundw
        case rel => exact ⟨lo, (lo + hi) / 2, rfl, by go_num, by omega, by omega, by omega, HBr.out.trans (HB2.out.mono HBr.out.size)⟩
        case measure => simp [intOf]; omega
    · obtain rfl : lo = n := by omega
      obtain rfl : hi = lo := by omega
      by_cases hin : hi < l.length
      · obtain ⟨blk, off, rfl, hblk, -, hc⟩ := sr_block_J hsr (by omega)
        obtain ⟨x, hx⟩ : ∃ x, l[hi]? = some x := ⟨_, List.getElem?_eq_getElem (by omega)⟩
        obtain ⟨c0, c1⟩ := hc _ _ hx
        have hxx : l[hi]! = x := by rw [getElem!_pos l _ (by omega)]; rw [List.getElem?_eq_getElem (by omega)] at hx; exact Option.some.inj hx
        have HX := Lib.hid hxx
        clear hc hx hxx hsr
        have hcl := fun w => find_closJ x b w
        have hf : fin = (cmpK x.k b == 0) := by rw [← FIN.out, HX.out, Bool.eq_iff_iff]; simp [hin, cmpK_eq]
        subst hf
        go_wp2_with fail
        refine Calls.mono (hcl _) ?_
        rintro e w' ⟨rfl, hb2⟩
        have HB2 := Lib.hid hb2
        clear hb2
        go_wp2_with fail
        go_returns
        exact ⟨rfl, HBr.out.trans (HB2.out.mono HBr.out.size)⟩
      · have hf : fin = false := by rw [← FIN.out]; simp [hin]
        subst hf
        go_wp2_with fail
        go_returns
        exact ⟨rfl, HBr.out⟩
end Go.Proofs.YtgnnijpfkgmomaaGreatDoor
/-
  journal: find, and what a record is.
-/

namespace Go.Proofs.YtgnnijpfkgmomaaGreatDoor
open Go.RowKit
set_option linter.unusedVariables false
set_option linter.unusedSimpArgs false

def jC (dv pv : Value) (sz : Int) (lv : Value) (now used told : Int) : Array Value := #[dv, pv, .int .i64 sz, lv, .int .i64 now, .int .i64 used, .int .u64 told]
def hasK (l : List JP) (k : ByteArray) : Bool := decide (ixK l k < l.length) && decide (l[ixK l k]!.k = k)
theorem has_iff {l : List JP} (h : Srt l) (k : ByteArray) : hasK l k = true ↔ ∃ v, l[ixK l k]? = some ⟨k, v⟩ := by
  unfold hasK
  rw [Bool.and_eq_true, decide_eq_true_eq, decide_eq_true_eq]
  constructor
  · rintro ⟨h1, h2⟩
    rw [getElem!_pos l _ h1] at h2
    rw [List.getElem?_eq_getElem h1]
    generalize l[ixK l k] = q at h2
    cases q with
    | mk a v => exact ⟨v, by rw [← h2]⟩
  · rintro ⟨v, hv⟩
    obtain ⟨h1, h2⟩ := List.getElem?_eq_some_iff.1 hv
    exact ⟨h1, by rw [getElem!_pos l _ h1, h2]⟩
theorem ix_ahead {l : List JP} (h : Srt l) (k : ByteArray) : (∀ p ∈ l.take (ixK l k), ltK p.k k = true) ∧ ∀ p ∈ l.drop (ixK l k), ltK p.k k = false := by
  obtain ⟨h1, h2⟩ := srt_place h k
  refine ⟨fun p hp => ?_, fun p hp => ?_⟩
  · rw [h1] at hp
    exact (List.mem_filter.1 hp).2
  · have hbe : ∀ q ∈ beK l k, ltK q.k k = false := fun q hq => by
      have h3 := (List.mem_filter.1 hq).2
      cases hh : ltK q.k k
      · rfl
      · have := ltK_trans h3 hh; rw [ltK_irr] at this; cases this
    rcases h2 with ⟨q1, -⟩ | ⟨v, q1, q2⟩
    · rw [q1] at hp; exact hbe p hp
    · obtain ⟨hl, e1⟩ := List.getElem?_eq_some_iff.1 q1
      rw [List.drop_eq_getElem_cons hl, e1, q2] at hp
      rcases List.mem_cons.1 hp with rfl | hp
      · exact ltK_irr _
      · exact hbe p hp
theorem jfind (p : Nat) (dv pv : Value) (sz : Int) (lv : Value) (now used told : Int) (l : List JP) (k : ByteArray) (w : World) (hp : w.heap[p]? = some (.cells (jC dv pv sz lv now used told) 64)) (hl : SR w pv 2 l.length (pCells l)) (hs : Srt l) (hn : l.length ≤ 1000000) :
    Calls Tryz.prog 43 #[.pointer (some ⟨p, 0, none⟩), .string k] w fun e w' => e = .returned (.tuple #[.int .i64 (ixK l k), .bool (hasK l k)]) ∧ Below w.heap.size w w' := by
  have p1 : w.cell? ⟨p, 1, none⟩ = some pv := by simp [World.cell?, hp, jC]
  obtain ⟨g1, g2⟩ := ix_ahead hs k
  have c : Calls Tryz.prog 74 #[pv, .string k, .func (.func 75) #[] #[]] w fun e w' => e = .returned (.tuple #[.int .i64 (ixK l k), .bool (hasK l k)]) ∧ Below w.heap.size w w' := search_J l k (ixK l k) (ix_le l k) g1 g2 w pv hl hn
  generalize hasK l k = b0 at c ⊢
  generalize ixK l k = n0 at c ⊢
  clear hp hl g1 g2
  go_enter Tryz.func43, Tryz.ntmps43
  go_wp2_with fail
  refine Calls.mono c ?_
  rintro e w1 ⟨rfl, hb⟩
  have HB := Lib.hid hb
  clear c hb
  go_wp2_with fail
  go_returns
  exact ⟨rfl, HB.out⟩
/-- a record's bytes, as the text that they are -/
def recS (p : JP) : ByteArray := ⟨(JO.b ⟨p.k, p.v, false⟩).toArray⟩
def gonS (k : ByteArray) : ByteArray := ⟨(JO.b ⟨k, ⟨#[]⟩, true⟩).toArray⟩
theorem text_str (s : ByteArray) (w : World) (hs : s.size ≤ 1073741824) : Calls Tryz.prog 65 #[.string s] w fun e w' => e = .returned (.string ⟨(textL s).toArray⟩) ∧ Below w.heap.size w w' := by
  have c := text_any (bL s) w (by rw [bL_len]; exact hs)
  rw [bL_len] at c
  have e : (⟨(bL s).toArray⟩ : ByteArray) = s := bL_back s
  rw [e] at c
  exact c
theorem textL_len (s : ByteArray) (hs : s.size ≤ 1073741824) : (textL s).length ≤ 9 + s.size := by
  unfold textL
  rw [List.length_append, bL_len]
  have := putN_length s.size (by omega)
  omega
theorem jgone (k : ByteArray) (w : World) (hk : k.size ≤ 1073741824) : Calls Tryz.prog 37 #[.string k] w fun e w' => e = .returned (.string (gonS k)) ∧ Below w.heap.size w w' := by
  have hl := textL_len k hk
  go_enter Tryz.func37, Tryz.ntmps37
  go_wp2_with fail
  refine Calls.mono (bool_any true _) ?_
  rintro e w1 ⟨rfl, rfl⟩
  go_wp2_with fail
  refine Calls.mono (text_str k _ hk) ?_
  rintro e w2 ⟨rfl, hb⟩
  have HB := Lib.hid hb
  have hsz : ((⟨(boolB true).toArray⟩ : ByteArray).size : Nat) = 1 := rfl
  have hsz2 : ((⟨(textL k).toArray⟩ : ByteArray).size : Nat) ≤ 9 + k.size := by show (textL k).toArray.size ≤ _; rw [List.size_toArray]; exact hl
  obtain ⟨T, hT⟩ : ∃ T : ByteArray, (⟨(textL k).toArray⟩ : ByteArray) = T := ⟨_, rfl⟩
  obtain ⟨U, hU⟩ : ∃ U : ByteArray, (⟨(boolB true).toArray⟩ : ByteArray) = U := ⟨_, rfl⟩
  have HG := Lib.hid (show U ++ T = gonS k by rw [← hT, ← hU, str_append]; rfl)
  rw [hT] at hsz2
  rw [hU] at hsz
  rw [hT, hU]
  clear hb hT hU hl
  go_wp2_with fail
  go_ret
  exact ⟨by rw [HG.out]; rfl, HB.out⟩
set_option maxHeartbeats 1600000 in
theorem jrecord (p : JP) (w : World) (hk : p.k.size ≤ 1073741824) (hv : p.v.size ≤ 1073741824) : Calls Tryz.prog 45 #[.agg #[.string p.k, .string p.v]] w fun e w' => e = .returned (.string (recS p)) ∧ Below w.heap.size w w' := by
  have hlk := textL_len p.k hk
  have hlv := textL_len p.v hv
  have hX := heap_alloc_self w (.cells #[.string p.k, .string p.v] 43)
  obtain ⟨X, hXe⟩ : ∃ X, w.heap.size = X := ⟨_, rfl⟩
  have hb0 : Below w.heap.size w (w.alloc (.cells #[.string p.k, .string p.v] 43)) := (Below.refl _ _).alloc (Nat.le_refl _) _
  have HB0 := Lib.hid (And.intro hb0 hXe)
  have hsz : ((⟨(boolB false).toArray⟩ : ByteArray).size : Nat) = 1 := rfl
  have hszk : ((⟨(textL p.k).toArray⟩ : ByteArray).size : Nat) ≤ 9 + p.k.size := by show (textL p.k).toArray.size ≤ _; rw [List.size_toArray]; exact hlk
  have hszv : ((⟨(textL p.v).toArray⟩ : ByteArray).size : Nat) ≤ 9 + p.v.size := by show (textL p.v).toArray.size ≤ _; rw [List.size_toArray]; exact hlv
  have cK := fun w => text_str p.k w hk
  have cV := fun w => text_str p.v w hv
  have cB := fun w => bool_any false w
  obtain ⟨TK, hTK⟩ : ∃ T : ByteArray, (⟨(textL p.k).toArray⟩ : ByteArray) = T := ⟨_, rfl⟩
  obtain ⟨TV, hTV⟩ : ∃ T : ByteArray, (⟨(textL p.v).toArray⟩ : ByteArray) = T := ⟨_, rfl⟩
  obtain ⟨U, hU⟩ : ∃ U : ByteArray, (⟨(boolB false).toArray⟩ : ByteArray) = U := ⟨_, rfl⟩
  have HG := Lib.hid (show (U ++ TK) ++ TV = recS p by rw [← hTK, ← hTV, ← hU, str_append, str_append]; unfold recS JO.b boolB; simp)
  rw [hTK] at hszk cK
  rw [hTV] at hszv cV
  rw [hU] at hsz cB
  rw [hXe] at hX
  clear hTK hTV hU hlk hlv hb0
  go_enter Tryz.func45, Tryz.ntmps45
  go_upto_region 1 with fail
  try simp only [hXe]
  generalize w.alloc (.cells #[.string p.k, .string p.v] 43) = w1 at *
  have x0 : w1.cell? ⟨X, 0, none⟩ = some (.string p.k) := by simp [World.cell?, hX]
  have x1 : w1.cell? ⟨X, 1, none⟩ = some (.string p.v) := by simp [World.cell?, hX]
  obtain ⟨M, hM⟩ : ∃ M, w1.heap.size = M := ⟨_, rfl⟩
  have hXM : X < M := by rw [← hM]; exact lt_heap hX
  have HM := Lib.hid hM
  have cK2 : ∀ w', M ≤ w'.heap.size → Calls Tryz.prog 65 #[.string p.k] w' fun e w'' => e = .returned (.string TK) ∧ Stays M w' w'' := fun w' h => (cK w').mono fun e w'' q => ⟨q.1, stays_of h q.2⟩
  have cV2 : ∀ w', M ≤ w'.heap.size → Calls Tryz.prog 65 #[.string p.v] w' fun e w'' => e = .returned (.string TV) ∧ Stays M w' w'' := fun w' h => (cV w').mono fun e w'' q => ⟨q.1, stays_of h q.2⟩
  have cB2 : ∀ w', M ≤ w'.heap.size → Calls Tryz.prog 64 #[.bool false] w' fun e w'' => e = .returned (.string U) ∧ Stays M w' w'' := fun w' h => (cB w').mono fun e w'' q => ⟨q.1, by rw [← q.2]; exact stays_refl h⟩
  clear hX hM cK cV cB
  have q1 : ¬ (9223372036854775807 < U.size + TK.size) := by omega
  have q2 : ¬ (9223372036854775807 < U.size + TK.size + TV.size) := by omega
  have q3 : U.size + TK.size ≤ 9223372036854775807 := by omega
  have q4 : U.size + TK.size + TV.size ≤ 9223372036854775807 := by omega
  clear hsz hszk hszv hk hv
  go_region_held3 (fun w' => M ≤ w'.heap.size ∧ Below M w1 w' ∧ ∀ b o, b < M → w'.cell? ⟨b, o, none⟩ = w1.cell? ⟨b, o, none⟩) (first | exact keeps_start HM.out | exact keeps_next (by assumption) hz) (first | (go_at_call 64; (with_reducible refine Calls.mono (cB2 _ (And.left (by assumption))) ?_); rintro e wz ⟨rfl, hz⟩) | (go_at_call 65; (with_reducible refine Calls.mono (cK2 _ (And.left (by assumption))) ?_); rintro e wz ⟨rfl, hz⟩) | (go_at_call 65; (with_reducible refine Calls.mono (cV2 _ (And.left (by assumption))) ?_); rintro e wz ⟨rfl, hz⟩))
  all_goals
    rename_i hfin
    have HF := Lib.hid hfin.2.1
    clear hfin
    go_wp2_with fail
    go_ret
    exact ⟨by rw [HG.out]; rfl, HB0.out.1.trans ((HF.out.mono (Nat.le_of_eq HM.out)).mono HB0.out.1.size)⟩
end Go.Proofs.YtgnnijpfkgmomaaGreatDoor
/-
  super: a number's eight bytes and back; a sector's halves; Get, Put.
-/



namespace Go.Proofs.YtgnnijpfkgmomaaGreatDoor
open Go.RowKit
set_option linter.unusedVariables false
set_option linter.unusedSimpArgs false

theorem s_or_byte (x : Nat) (c : UInt8) (h : x < 72057594037927936) : bits .or .u64 (IntKind.u64.wrap ((x : Int) * 256)) (IntKind.u64.wrap (c.toNat : Int)) = ((x * 256 + c.toNat : Nat) : Int) := by
  have hc := c.toNat_lt
  rw [IntKind.wrap_u64, IntKind.wrap_u64]
  rw [show ((x : Int) * 256) % 18446744073709551616 = ((x * 256 : Nat) : Int) by omega, show (c.toNat : Int) % 18446744073709551616 = (c.toNat : Int) by omega]
  have hb : bits .or .u64 ((x * 256 : Nat) : Int) (c.toNat : Int) = (((x * 256) ||| c.toNat : Nat) : Int) := by
    show IntKind.u64.wrap ((BitVec.ofInt 64 ((x * 256 : Nat) : Int) ||| BitVec.ofInt 64 (c.toNat : Int)).toNat : Nat) = _
    rw [BitVec.toNat_or]
    rw [show (BitVec.ofInt 64 ((x * 256 : Nat) : Int)).toNat = x * 256 by rw [BitVec.toNat_ofInt]; omega, show (BitVec.ofInt 64 (c.toNat : Int)).toNat = c.toNat by rw [BitVec.toNat_ofInt]; omega]
    have hl : (x * 256) ||| c.toNat < 2 ^ 64 := Nat.or_lt_two_pow (by omega) (by omega)
    rw [IntKind.wrap_u64]
    omega
  rw [hb]
  have := Nat.two_pow_add_eq_or_of_lt (i := 8) (b := c.toNat) (by omega) x
  rw [Nat.mul_comm x 256]
  exact congrArg _ this.symm
theorem s_valN_take (l : List UInt8) (k : Nat) (h : k < l.length) : valN (l.take (k + 1)) = valN (l.take k) * 256 + (l.getD k 0).toNat := by
  rw [List.take_succ_eq_append_getElem h, valN_snoc]
  simp [List.getD, h]
theorem s_valN_small (l : List UInt8) (k : Nat) (h : k ≤ 7) : valN (l.take k) < 72057594037927936 := by
  have h1 := valN_lt (l.take k)
  have h2 : (l.take k).length ≤ 7 := Nat.le_trans (List.length_take_le _ _) h
  exact Nat.lt_of_lt_of_le h1 (Nat.le_trans (Nat.pow_le_pow_right (by omega) h2) (by decide))
theorem s_or_byte2 (x : Nat) (c : UInt8) (h : x < 72057594037927936) : bits .or .u64 ((x : Int) * 256) (IntKind.u64.wrap (c.toNat : Int)) = ((x * 256 + c.toNat : Nat) : Int) := by
  have := s_or_byte x c h
  rw [IntKind.wrap_u64 ((x : Int) * 256), show ((x : Int) * 256) % 18446744073709551616 = (x : Int) * 256 by omega] at this
  exact this
theorem byte_nat (n k : Nat) : (n : Int) / 2 ^ (8 * k) % 256 = ((UInt8.ofNat (n / 256 ^ k)).toNat : Int) := by
  have := byte_at n (by omega) k
  simpa using this
theorem beN_take (k n : Nat) : (beN k n).take k = beN k n := List.take_of_length_le (by rw [beN_length]; omega)
/-- what eight bytes tell -/
def num8 (s : ByteArray) : Nat := valN (s.data.toList.take 8)
theorem num8_lt (s : ByteArray) : num8 s < 18446744073709551616 := by
  have h1 := valN_lt (s.data.toList.take 8)
  have h2 : (s.data.toList.take 8).length ≤ 8 := List.length_take_le _ _
  exact Nat.lt_of_lt_of_le h1 (Nat.le_trans (Nat.pow_le_pow_right (by omega) h2) (by decide))
/-- a number's eight bytes -/
def be8 (n : Nat) : ByteArray := ⟨(beN 8 n).toArray⟩
theorem be8_size (n : Nat) : (be8 n).size = 8 := by simp [be8, ByteArray.size, beN_length]
/-- the bytes that are laid, and noughts behind them -/
def beFill (n j : Nat) : List UInt8 := (beN 8 n).take j ++ List.replicate (8 - j) 0
theorem beFill_length (n j : Nat) (h : j ≤ 8) : (beFill n j).length = 8 := by simp [beFill, beN_length]; omega
theorem beFill_set (n j : Nat) (h : j < 8) : (beFill n j).set j (UInt8.ofNat (n / 256 ^ (7 - j))) = beFill n (j + 1) := by
  have hj : j = 0 ∨ j = 1 ∨ j = 2 ∨ j = 3 ∨ j = 4 ∨ j = 5 ∨ j = 6 ∨ j = 7 := by omega
  rcases hj with rfl | rfl | rfl | rfl | rfl | rfl | rfl | rfl <;> rfl
theorem be_step {w wr : World} {G j n : Nat} {t : TypeId} {c : Int} (hj : j < 8) (hc : c = ((UInt8.ofNat (n / 256 ^ (7 - j))).toNat : Int)) (hx : wr.heap[G]? = some (.cells (bCells (beFill n j)).toArray t)) (hb : Below G w wr) :
    (wr.setCell ⟨G, j, none⟩ (.int .u8 c)).heap[G]? = some (.cells (bCells (beFill n (j + 1))).toArray t) ∧ Below G w (wr.setCell ⟨G, j, none⟩ (.int .u8 c)) := by
  subst hc
  refine ⟨?_, hb.setCell (Nat.le_refl _) _⟩
  rw [heap_set_self hx, bCells_set, beFill_set n j hj]
set_option maxHeartbeats 800000 in
set_option maxRecDepth 100000 in
theorem sbytes (n : Nat) (w : World) (hn : n < 18446744073709551616) : Calls Tryz.prog 106 #[.int .u64 n] w fun e w' => e = .returned (.string (be8 n)) ∧ Below w.heap.size w w' := by
  have hx := heap_alloc_self w (.cells (bCells (beFill n 0)).toArray 161)
  have hb0 : Below w.heap.size w (w.alloc (.cells (bCells (beFill n 0)).toArray 161)) := (Below.refl _ _).alloc (Nat.le_refl _) _
  have hcs : (bCells (beFill n 0)).toArray = #[.int .u8 0, .int .u8 0, .int .u8 0, .int .u8 0, .int .u8 0, .int .u8 0, .int .u8 0, .int .u8 0] := rfl
  go_enter Tryz.func106, Tryz.ntmps106
  go_upto_region 2 with fail
  rw [hcs] at hx hb0
  try rw [hcs]
  generalize w.alloc (.cells #[.int .u8 0, .int .u8 0, .int .u8 0, .int .u8 0, .int .u8 0, .int .u8 0, .int .u8 0, .int .u8 0] 161) = w1 at *
  rw [← hcs] at hx
  have HX := Lib.hid hx
  have HB := Lib.hid hb0
  clear hx hb0 hcs
  obtain ⟨G, hG⟩ : ∃ G, w.heap.size = G := ⟨_, rfl⟩
  rw [hG] at HX HB ⊢
  go_wp2_with fail
  go_loopw [5] (fun i wr => ∃ j : Nat, j ≤ 8 ∧ i = .int .i64 j ∧ wr.heap[G]? = some (.cells (bCells (beFill n j)).toArray 161) ∧ Below G w wr) (fun i _ => 8 - (intOf i).toNat)
  case atStart => exact ⟨0, by omega, rfl, HX.out, HB.out⟩
  case round =>
    obtain ⟨j, hj, rfl, hx, hbr⟩ := hrel
    have HXr := Lib.hid hx
    have HBr := Lib.hid hbr
    have hlen := beFill_length n j hj
    have HLn := Lib.hid hlen
    clear hlen
    by_cases hlt : j < 8
    · have hc : wr.cell? ⟨G, j, none⟩ = some (.int .u8 ((beFill n j).getD j 0).toNat) := by
        have := HLn.out
        simp [World.cell?, hx, bCells, List.getD, this, hlt]
      have hf : wr.frozen? ⟨G, j, none⟩ = false := by simp [World.frozen?, hx]
      clear hx hbr
      have hsh : 0 ≤ 8 * (7 - (j : Int)) := by omega
      go_wp2_with fail
      go_roundw
      case rel => exact ⟨j + 1, by omega, by go_num, be_step hlt (byte_nat n (7 - j)) HXr.out HBr.out⟩
      case measure => simp [intOf]; omega
    · have hcv := conv_block (P := Tryz.prog) (src := 60) (dst := 9) Tryz.underlying60 Tryz.underlying5 Tryz.underlying9 8 HLn.out.symm hx
      obtain rfl : j = 8 := by omega
      clear hx hbr
      go_wp2_with fail
      go_ret
      exact ⟨ret_str (by simp [be8, beFill, beN_take]), by rw [hG]; exact HBr.out⟩
set_option maxHeartbeats 800000 in
theorem snumber (s : ByteArray) (w : World) (hs : 8 ≤ s.size) (hm : s.size ≤ 64) : Calls Tryz.prog 104 #[.string s] w fun e w' => e = .returned (.int .u64 (num8 s)) ∧ w = w' := by
  have hl : s.data.toList.length = s.size := rfl
  have HL := Lib.hid hl
  clear hl
  go_enter Tryz.func104, Tryz.ntmps104
  go_wp2_with fail
  go_loop [3, 5] (fun v i => ∃ j : Nat, j ≤ 8 ∧ i = .int .i64 j ∧ v = .int .u64 (valN (s.data.toList.take j))) (fun _ i => 8 - (intOf i).toNat)
  case atStart => exact ⟨0, by omega, rfl, rfl⟩
  case round =>
    obtain ⟨j, hj, rfl, rfl⟩ := hrel
    by_cases hlt : j < 8
    · have hjs : j < s.size := by omega
      have e1 := Lib.hid (s_valN_take s.data.toList j (by rw [HL.out]; exact hjs))
      have e2 := s_valN_small s.data.toList j (by omega)
      obtain ⟨c, hc⟩ : ∃ c, s[j] = c := ⟨_, rfl⟩
      have hc2 : s.data.toList.getD j 0 = c := by rw [← hc]; simp [List.getD, hjs]; rfl
      obtain ⟨X, hX⟩ : ∃ X, valN (s.data.toList.take j) = X := ⟨_, rfl⟩
      rw [hX] at e2 e1
      rw [hX]
      rw [hc2] at e1
      have hor := s_or_byte2 X c e2
      have HO := Lib.hid hor
      clear hX hc2 hor
      go_wp2_with fail
      go_round
      case rel => exact ⟨j + 1, by omega, by go_num, by rw [e1.out]; exact congrArg (Value.int .u64) HO.out⟩
      case measure => simp [intOf]; omega
    · obtain rfl : j = 8 := by omega
      go_wp2_with fail
      go_ret
      exact ⟨rfl, rfl⟩
end Go.Proofs.YtgnnijpfkgmomaaGreatDoor
/-
  super: halves, Get, Put, may, Write.
-/


namespace Go.Proofs.YtgnnijpfkgmomaaGreatDoor
open Go.RowKit
set_option linter.unusedVariables false
set_option linter.unusedSimpArgs false

theorem ext_size (s : ByteArray) (a b : Nat) (h : b ≤ s.size) : (s.extract a b).size = b - a := by simp [ByteArray.size_extract, Nat.min_eq_left h]
theorem qnum {P : Program} {f : FuncId} {args : Array Value} {w : World} {v : Value} (h : Calls P f args w fun e w' => e = .returned v ∧ w = w') : Calls P f args w fun e w' => e = .returned v ∧ w' = w := h.mono fun _ _ h => ⟨h.1, h.2.symm⟩
set_option maxHeartbeats 400000 in
theorem shalves (s : ByteArray) (w : World) (hs : s.size = 64) : Calls Tryz.prog 89 #[.string s] w fun e w' => e = .returned (.tuple #[.int .u64 (num8 s), .int .u64 (num8 (s.extract 32 64))]) ∧ Below w.heap.size w w' := by
  have hx := ext_size s 32 64 (by omega)
  have c1 := fun w => qnum (snumber s w (by omega) (by omega))
  have c2 := fun w => qnum (snumber (s.extract 32 64) w (by omega) (by omega))
  clear hx
  go_enter Tryz.func89, Tryz.ntmps89
  go_upto_region 1 with fail
  go_quiet ((go_at_call 104; first | (with_reducible exact Calls.quiet_of_same (c1 _)) | (with_reducible exact Calls.quiet_of_same (c2 _))))
  go_wp2_with fail
  go_returns
  exact ⟨rfl, below_drewN' (Below.refl _ _) _⟩
/-- a whole sector: its halves are of one time -/
def wholeB (s : ByteArray) : Bool := decide (s.size = 64 ∧ num8 s ≠ 0 ∧ num8 s = num8 (s.extract 32 64))
/-- its word -/
def wordS (s : ByteArray) : ByteArray := s.extract 8 32 ++ s.extract 40 64
set_option maxHeartbeats 400000 in
theorem sget_ok (s : ByteArray) (w : World) (h : wholeB s = true) : Calls Tryz.prog 81 #[.string s] w fun e w' => e = .returned (.tuple #[.int .u64 (num8 s), .string (wordS s), .bool true]) ∧ Below w.heap.size w w' := by
  obtain ⟨hs, h0, he⟩ := of_decide_eq_true h
  have c1 := fun w => shalves s w hs
  rw [← he] at c1
  obtain ⟨X, hX⟩ : ∃ X, num8 s = X := ⟨_, rfl⟩
  rw [hX] at c1 h0 ⊢
  have h1 : ((X : Int) == 0) = false := by simpa using h0
  have hv : (wordS s) = s.extract 8 32 ++ s.extract 40 64 := rfl
  have HV := Lib.hid hv
  have hz1 := ext_size s 8 32 (by omega)
  have hz2 := ext_size s 40 64 (by omega)
  clear h he h0 hX hv
  go_enter Tryz.func81, Tryz.ntmps81
  go_wp2_with fail
  refine Calls.mono (c1 _) ?_
  rintro e w2 ⟨rfl, hb⟩
  have HB := Lib.hid hb
  clear hb
  go_upto_region 6 with fail
  go_quiet (fail)
  go_wp2_with fail
  go_returns
  exact ⟨by rw [HV.out]; rfl, below_drewN' HB.out _⟩
theorem sget_no (s : ByteArray) (w : World) (h : wholeB s = false) : Calls Tryz.prog 81 #[.string s] w fun e w' => e = .returned (.tuple #[.int .u64 0, .string ⟨#[]⟩, .bool false]) ∧ Below w.heap.size w w' := by
  have h' := of_decide_eq_false h
  by_cases hs : s.size = 64
  · have c1 := fun w => shalves s w hs
    obtain ⟨X, hX⟩ : ∃ X, num8 s = X := ⟨_, rfl⟩
    obtain ⟨Y, hY⟩ : ∃ Y, num8 (s.extract 32 64) = Y := ⟨_, rfl⟩
    rw [hX, hY] at c1 h'
    by_cases h0 : X = 0
    · subst h0
      clear h h' hX hY
      go_enter Tryz.func81, Tryz.ntmps81
      go_wp2_with fail
      refine Calls.mono (c1 _) ?_
      rintro e w2 ⟨rfl, hb⟩
      have HB := Lib.hid hb
      clear hb
      go_wp2_with fail
      go_returns
      exact ⟨rfl, HB.out⟩
    · have h1 : ((X : Int) == 0) = false := by simpa using h0
      have hne : X ≠ Y := fun e => h' ⟨hs, h0, e⟩
      have h2 : ((X : Int) == (Y : Int)) = false := by simp; omega
      have h3 : ((X : Int) != (Y : Int)) = true := by simp [bne, h2]
      clear h h' hX hY h0 hne
      go_enter Tryz.func81, Tryz.ntmps81
      go_wp2_with fail
      refine Calls.mono (c1 _) ?_
      rintro e w2 ⟨rfl, hb⟩
      have HB := Lib.hid hb
      clear hb
      go_wp2_with fail
      go_returns
      exact ⟨rfl, HB.out⟩
  · have h1 : ((s.size : Int) != 64) = true := by simp; omega
    have h2 : ((s.size : Int) == 64) = false := by simp; omega
    clear h h' hs
    go_enter Tryz.func81, Tryz.ntmps81
    go_wp2_with fail
    go_returns
    exact ⟨rfl, Below.refl _ _⟩
/-- a word with noughts behind it -/
def padS (s : ByteArray) : ByteArray := s ++ zeroL (48 - s.size)
/-- a word's sector -/
def putS (n : Nat) (s : ByteArray) : ByteArray := be8 n ++ (padS s).extract 0 24 ++ be8 n ++ (padS s).extract 24 48
theorem padS_size (s : ByteArray) (h : s.size ≤ 48) : (padS s).size = 48 := by rw [padS, ByteArray.size_append, zeroL_size]; omega
theorem putS_size (n : Nat) (s : ByteArray) (h : s.size ≤ 48) : (putS n s).size = 64 := by
  have := padS_size s h
  simp [putS, ByteArray.size_append, be8_size, ByteArray.size_extract, this]
set_option maxHeartbeats 1600000 in
set_option maxRecDepth 100000 in
theorem sput (n : Nat) (s : ByteArray) (w : World) (h0 : n ≠ 0) (hn : n < 18446744073709551616) (hs : s.size ≤ 48) : Calls Tryz.prog 92 #[.int .u64 n, .string s] w fun e w' => e = .returned (.string (putS n s)) ∧ Below w.heap.size w w' := by
  have cr : ∀ w, Calls Tryz.prog 79 #[.string ⟨#[0]⟩, .int .i64 (48 - (s.size : Int))] w fun e w' => e = .returned (.string (zeroL (48 - s.size))) ∧ Below w.heap.size w w' := by
    intro w
    rw [show (48 - (s.size : Int)) = ((48 - s.size : Nat) : Int) by omega]
    exact repeat0 _ w (by omega)
  have hp := padS_size s hs
  obtain ⟨Z, hZ⟩ : ∃ Z, zeroL (48 - s.size) = Z := ⟨_, rfl⟩
  have hP : padS s = s ++ Z := by rw [← hZ]; rfl
  obtain ⟨P, hPP⟩ : ∃ P, s ++ Z = P := ⟨_, rfl⟩
  have hZs : Z.size ≤ 48 := by rw [← hZ, zeroL_size]; omega
  simp only [hZ] at cr
  rw [hP, hPP] at hp
  obtain ⟨B, hB⟩ : ∃ B, be8 n = B := ⟨_, rfl⟩
  have hBs : B.size ≤ 8 := by rw [← hB, be8_size]; omega
  have cb : ∀ {N : Nat} (w' : World), N ≤ w'.heap.size → Calls Tryz.prog 106 #[.int .u64 n] w' fun e w'' => e = .returned (.string B) ∧ Stays N w' w'' := fun w' hN => (sbytes n w' hn).mono fun e w'' h => ⟨by rw [← hB]; exact h.1, stays_of hN h.2⟩
  have hR : putS n s = B ++ P.extract 0 24 ++ B ++ P.extract 24 48 := by rw [putS, hB, hP, hPP]
  have HR := Lib.hid hR
  have h1 : ((n : Int) == 0) = false := by simpa using h0
  have hx1 := ext_size P 0 24 (by omega)
  have hx2 := ext_size P 24 48 (by omega)
  have hx1' : (P.extract 0 24).size ≤ 24 := by omega
  have hx2' : (P.extract 24 48).size ≤ 24 := by omega
  have HPP := Lib.hid hPP
  have HP := Lib.hid hp
  clear hR hZ hP hB h0 hx1 hx2 hPP hp
  go_enter Tryz.func92, Tryz.ntmps92
  go_wp2_with fail
  refine Calls.mono (cr _) ?_
  rintro e w2 ⟨rfl, hb⟩
  have HB := Lib.hid hb
  clear hb cr
  have hPP := HPP.out
  have hp := HP.out
  have hp2 : (P.size : Int) = 48 := by omega
  go_upto_region 4 with fail
  obtain ⟨N, hN⟩ : ∃ N, w2.heap.size = N := ⟨_, rfl⟩
  have HN := Lib.hid hN
  clear hN hPP
  have k1 : ¬ 9223372036854775807 < B.size + 24 := by omega
  have k2 : ¬ 9223372036854775807 < B.size + 24 + B.size := by omega
  have k3 : ¬ 9223372036854775807 < B.size + 24 + B.size + 24 := by omega
  have c := fun w' h => cb (N := N) w' h
  go_region_held3 (fun w' => N ≤ w'.heap.size ∧ Below N w2 w' ∧ ∀ b o, b < N → w'.cell? ⟨b, o, none⟩ = w2.cell? ⟨b, o, none⟩) (first | assumption | exact keeps_start HN.out | exact keeps_next (by assumption) (by assumption)) (first | (go_at_call 106; refine Calls.mono (c _ (And.left (by assumption))) ?_; rintro e wz ⟨rfl, hz⟩))
  go_wp2_with fail
  go_ret
  have hh := And.left (And.right (by assumption : N ≤ wz.heap.size ∧ Below N w2 wz ∧ ∀ (b o : Nat), b < N → wz.cell? ⟨b, o, none⟩ = w2.cell? ⟨b, o, none⟩))
  exact ⟨ret_str HR.out.symm, below_trans HB.out (by rw [HN.out]; exact hh) HB.out.size⟩
theorem sput_none (n : Nat) (s : ByteArray) (w : World) (h : n = 0 ∨ 48 < s.size) (hs : s.size ≤ maxLen) : Calls Tryz.prog 92 #[.int .u64 n, .string s] w fun e w' => e = .returned (.string ⟨#[]⟩) ∧ w = w' := by
  unfold maxLen at hs
  by_cases h0 : n = 0
  · subst h0
    clear h
    go_enter Tryz.func92, Tryz.ntmps92
    go_wp2_with fail
    go_ret
    exact ⟨rfl, rfl⟩
  · have h1 : ((n : Int) == 0) = false := by simpa using h0
    have h2 : 48 < s.size := h.resolve_left h0
    clear h h0
    go_enter Tryz.func92, Tryz.ntmps92
    go_wp2_with fail
    go_ret
    exact ⟨rfl, rfl⟩
theorem smay (n : Int) (w : World) : Calls Tryz.prog 88 #[.int .i64 n] w fun e w' => e = .returned (.bool (decide (0 ≤ n) && decide (n ≤ 4096))) ∧ w = w' := by
  by_cases h : 0 ≤ n
  · go_enter Tryz.func88, Tryz.ntmps88
    go_wp2_with fail
    go_ret
    exact ⟨ret_bool (by simp [h]), rfl⟩
  · go_enter Tryz.func88, Tryz.ntmps88
    go_wp2_with fail
    go_ret
    exact ⟨ret_bool (by simp; omega), rfl⟩
end Go.Proofs.YtgnnijpfkgmomaaGreatDoor
