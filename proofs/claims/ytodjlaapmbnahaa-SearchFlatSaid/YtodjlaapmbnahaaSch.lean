/-
  Uses as data; search.ended, over, first.
-/
import Derived.Test.YtodjlaapmbnahaaSR
import Derived.Test.YtodjlaapmbnahaaHeld
import Derived.Test.YtodjlaapmbnahaaMask
import Derived.Test.YtodjlaapmbnahaaFits
namespace Go.Proofs.Ytodjlaapmbnahaa
open Go.RowKit
set_option linter.unusedVariables false
set_option linter.unusedSimpArgs false

structure US where
  w : Bool
  v : ByteArray
  f : Int
  t : Int
def uC40 (u : US) : List Value := [.bool u.w, .string u.v, .int .i64 u.f, .int .i64 u.t]
def uCs (l : List US) : List Value := l.flatMap uC40
theorem uCs_length (l : List US) : (uCs l).length = 4 * l.length := by
  induction l with
  | nil => rfl
  | cons u r ih =>
    have e : uCs (u :: r) = uC40 u ++ uCs r := by simp [uCs]
    rw [e, List.length_append, ih]
    simp [uC40]
    omega
theorem flat4 : ∀ (l : List US) (i : Nat) {u : US}, l[i]? = some u → ∀ (j : Nat) (x : Value), (uC40 u)[j]? = some x → (uCs l)[i * 4 + j]? = some x
  | [], i, u, h, j, x, hx => by simp at h
  | y :: r, 0, u, h, j, x, hx => by
    obtain rfl : y = u := by simpa using h
    have e : uCs (y :: r) = uC40 y ++ uCs r := by simp [uCs]
    have hj : j < (uC40 y).length := (List.getElem?_eq_some_iff.1 hx).1
    rw [e, show 0 * 4 + j = j by omega, List.getElem?_append_left hj]
    exact hx
  | y :: r, i + 1, u, h, j, x, hx => by
    have e : uCs (y :: r) = uC40 y ++ uCs r := by simp [uCs]
    have h4 : (uC40 y).length = 4 := rfl
    rw [e, List.getElem?_append_right (by omega), h4, show (i + 1) * 4 + j - 4 = i * 4 + j by omega]
    exact flat4 r i (by simpa using h) j x hx
theorem use_at {w : World} {a : Option Addr} {n cap : Nat} {l : List US} (h : SR w (.slice a n cap) 4 n (uCs l)) (i : Nat) (hi : i < n) : ∃ b off u, a = some ⟨b, off, none⟩ ∧ l[i]? = some u ∧ w.cell? ⟨b, off + i * 4, none⟩ = some (.bool u.w) ∧ w.cell? ⟨b, off + i * 4 + 1, none⟩ = some (.string u.v) ∧ w.cell? ⟨b, off + i * 4 + 2, none⟩ = some (.int .i64 u.f) ∧ w.cell? ⟨b, off + i * 4 + 3, none⟩ = some (.int .i64 u.t) := by
  obtain ⟨a', cap', he, h1, h2, h3, h4⟩ := h
  injection he with e1 _ e2
  subst e1 e2
  rcases h4 with h4 | ⟨b, off, rfl, hb, hc⟩
  · omega
  · rw [uCs_length] at h3
    have hl : i < l.length := by omega
    have hu : l[i]? = some l[i] := List.getElem?_eq_getElem hl
    refine ⟨b, off, l[i], rfl, hu, ?_, ?_, ?_, ?_⟩
    · exact hc (i * 4) _ (flat4 l i hu 0 _ rfl)
    · exact hc (i * 4 + 1) _ (flat4 l i hu 1 _ rfl)
    · exact hc (i * 4 + 2) _ (flat4 l i hu 2 _ rfl)
    · exact hc (i * 4 + 3) _ (flat4 l i hu 3 _ rfl)
theorem sr_len4 {w : World} {v : Value} {n : Nat} {l : List US} (h : SR w v 4 n (uCs l)) : l.length = n := by
  obtain ⟨a', cap', he, h1, h2, h3, h4⟩ := h
  rw [uCs_length] at h3
  omega
/-- a Bool that tells whether -/
def BR (e : Ending) (p : Prop) : Prop := ∃ b : Bool, e = .returned (.bool b) ∧ (b = true ↔ p)
theorem BR.t {p : Prop} (h : p) : BR (.returned (.bool true)) p := ⟨true, rfl, fun _ => h, fun _ => rfl⟩
theorem BR.f {p : Prop} (h : ¬ p) : BR (.returned (.bool false)) p := ⟨false, rfl, fun q => (by cases q), fun q => absurd q h⟩
def OvTo (l : List US) (d i : Nat) : Prop := ∀ j u, j < i → l[j]? = some u → d.testBit j = false → ¬ u.t < 1073741824
def FsTo (l : List US) (d : Nat) (f : Int) (i : Nat) : Prop := ∀ j u, j < i → l[j]? = some u → d.testBit j = false → ¬ u.t < f
/-- all that ended is done -/
def Over (l : List US) (d : Nat) : Prop := ∀ i u, l[i]? = some u → d.testBit i = false → ¬ u.t < 1073741824
/-- none that is not done had ended ahead of f -/
def Fst (l : List US) (d : Nat) (f : Int) : Prop := ∀ i u, l[i]? = some u → d.testBit i = false → ¬ u.t < f
inductive Ord (l : List US) : Nat → ByteArray → Prop
  | over {d : Nat} {v : ByteArray} : Over l d → Ord l d v
  | step {d : Nat} {v : ByteArray} {i : Nat} {u : US} : l[i]? = some u → d.testBit i = false → Fst l d u.f → (u.w = false → u.v = v) → Ord l (d ||| 2 ^ i) u.v → Ord l d v
theorem OvTo.next {l : List US} {d i : Nat} {u : US} (h : OvTo l d i) (hu : l[i]? = some u) (hor : d.testBit i = true ∨ ¬ u.t < 1073741824) : OvTo l d (i + 1) := fun j u' hj hu' hbj => by
  rcases Nat.lt_or_ge j i with q | q
  · exact h j u' q hu' hbj
  · obtain rfl : j = i := by omega
    rw [hu] at hu'
    obtain rfl := Option.some.inj hu'
    rcases hor with r | r
    · rw [hbj] at r; cases r
    · exact r
theorem OvTo.all {l : List US} {d n : Nat} (h : OvTo l d n) (hn : l.length = n) : Over l d := fun j u hu hb => h j u (by have := (List.getElem?_eq_some_iff.1 hu).1; omega) hu hb
theorem FsTo.next {l : List US} {d i : Nat} {f : Int} {u : US} (h : FsTo l d f i) (hu : l[i]? = some u) (hor : d.testBit i = true ∨ ¬ u.t < f) : FsTo l d f (i + 1) := fun j u' hj hu' hbj => by
  rcases Nat.lt_or_ge j i with q | q
  · exact h j u' q hu' hbj
  · obtain rfl : j = i := by omega
    rw [hu] at hu'
    obtain rfl := Option.some.inj hu'
    rcases hor with r | r
    · rw [hbj] at r; cases r
    · exact r
theorem FsTo.all {l : List US} {d n : Nat} {f : Int} (h : FsTo l d f n) (hn : l.length = n) : Fst l d f := fun j u hu hb => h j u (by have := (List.getElem?_eq_some_iff.1 hu).1; omega) hu hb
theorem cellU {w : World} {b : Nat} {A : Array Value} {t : TypeId} (h : w.heap[b]? = some (.cells A t)) (i : Nat) {v : Value} (hv : A[i]? = some v) : w.cell? ⟨b, i, none⟩ = some v := by
  simp [World.cell?, h, hv]
theorem mask_u64s (x : Nat) (k m : Nat) (hm : m = 2 ^ k - 1) (hk : k ≤ 60) (hx : x < 18446744073709551616) : bits .and .u64 (x : Int) (m : Int) = ((x % 2 ^ k : Nat) : Int) := by
  subst hm
  have hp : 2 ^ k ≤ 2 ^ 60 := Nat.pow_le_pow_right (by omega) hk
  have h0 : 0 < 2 ^ k := Nat.two_pow_pos k
  show IntKind.u64.wrap ((BitVec.ofInt 64 (x : Int) &&& BitVec.ofInt 64 ((2 ^ k - 1 : Nat) : Int)).toNat : Nat) = _
  rw [BitVec.toNat_and]
  rw [show (BitVec.ofInt 64 (x : Int)).toNat = x by rw [BitVec.toNat_ofInt]; omega, show (BitVec.ofInt 64 ((2 ^ k - 1 : Nat) : Int)).toNat = 2 ^ k - 1 by rw [BitVec.toNat_ofInt]; omega]
  rw [Nat.and_two_pow_sub_one_eq_mod, IntKind.wrap_u64]
  have := Nat.mod_lt x h0
  omega
theorem bit_of (d i : Nat) (hd : d < 4096) : ∃ K : Nat, ((d : Int) / 2 ^ i = (K : Int)) ∧ bits .and .u64 (K : Int) 1 = if d.testBit i then 1 else 0 := by
  refine ⟨d / 2 ^ i, by simp, ?_⟩
  have hlt : d / 2 ^ i ≤ d := Nat.div_le_self _ _
  have hm := mask_u64s (d / 2 ^ i) 1 1 (by decide) (by decide) (by omega)
  rw [show ((1 : Nat) : Int) = 1 from rfl] at hm
  rw [hm]
  have h := Nat.toNat_testBit d i
  rw [show 2 ^ 1 = 2 from rfl, ← h]
  cases d.testBit i <;> rfl
set_option maxHeartbeats 800000 in
theorem sended (u : US) (w : World) : Calls Try.prog 38 #[.agg #[.bool u.w, .string u.v, .int .i64 u.f, .int .i64 u.t]] w fun e w' => e = .returned (.bool (decide (u.t < 1073741824))) ∧ Below w.heap.size w w' := by
  obtain ⟨uw, uv, uf, ut⟩ := u
  simp only
  have hx := heap_alloc_self w (.cells #[.bool uw, .string uv, .int .i64 uf, .int .i64 ut] 72)
  have hb := (Below.refl w.heap.size w).alloc (Nat.le_refl _) (.cells #[.bool uw, .string uv, .int .i64 uf, .int .i64 ut] 72)
  go_enter Try.func38, Try.ntmps38
  go_upto_region 1 with fail
  generalize w.alloc (.cells #[.bool uw, .string uv, .int .i64 uf, .int .i64 ut] 72) = w1 at *
  have c3 := cellU hx 3 (v := .int .i64 ut) rfl
  have HB := Lib.hid hb
  clear hx hb
  go_wp2_with fail
  go_ret
  exact ⟨by first | rfl | simp, HB.out⟩
set_option maxHeartbeats 1600000 in
theorem sover (l : List US) (a : Option Addr) (n cap M d : Nat) (w : World) (h : SR w (.slice a n cap) 4 n (uCs l)) (hd : d < 4096) (hn : n ≤ 12) :
    Calls Try.prog 33 #[.agg #[.slice a n cap, .map (some M)], .int .u64 (d : Nat)] w fun e w' => BR e (Over l d) ∧ Below w.heap.size w w' := by
  have HLL := Lib.hid (sr_len4 h)
  have HSR := Lib.hid h
  have hx := heap_alloc_self w (.cells #[.slice a n cap, .map (some M)] 75)
  have hb := (Below.refl w.heap.size w).alloc (Nat.le_refl _) (.cells #[.slice a n cap, .map (some M)] 75)
  clear h
  go_enter Try.func33, Try.ntmps33
  go_upto_region 1 with fail
  generalize w.alloc (.cells #[.slice a n cap, .map (some M)] 75) = w1 at *
  have c0 := cellU hx 0 (v := .slice a n cap) rfl
  have HB := Lib.hid hb
  clear hx hb
  go_wp2_with fail
  go_loopw [10] (fun iv wr => ∃ i : Nat, i ≤ n ∧ iv = .int .i64 i ∧ Hid (OvTo l d i) ∧ Hid (Below w.heap.size w wr)) (fun iv _ => n - (intOf iv).toNat)
  case atStart => exact ⟨0, Nat.zero_le _, rfl, Lib.hid (fun j u hj => by omega), HB⟩
  case round =>
    obtain ⟨i, hi, rfl, HG, HW⟩ := hrel
    clear c0
    by_cases hin : i < n
    · obtain ⟨b, off, u, rfl, hu, k0, k1, k2, k3⟩ := use_at (HSR.out.below HW.out) i hin
      obtain ⟨K, hK, hbit⟩ := bit_of d i hd
      have ce := fun w' => sended u w'
      have HU := Lib.hid hu
      obtain ⟨uw, uv, uf, ut⟩ := u
      simp only at k0 k1 k2 k3 ce
      have hx := heap_alloc_self wr (.cells #[.bool uw, .string uv, .int .i64 uf, .int .i64 ut] 72)
      have hb := HW.out.alloc HW.out.size (.cells #[.bool uw, .string uv, .int .i64 uf, .int .i64 ut] 72)
      clear hu
      have hi12 : i < 12 := by omega
      go_upto_region 4 with fail
      generalize wr.alloc (.cells #[.bool uw, .string uv, .int .i64 uf, .int .i64 ut] 72) = W1 at *
      obtain ⟨Q, hQ⟩ : ∃ Q, wr.heap.size = Q := ⟨_, rfl⟩
      rw [hQ] at hx
      simp only [hQ]
      have c0 := cellU hx 0 (v := .bool uw) rfl
      have c1 := cellU hx 1 (v := .string uv) rfl
      have c2 := cellU hx 2 (v := .int .i64 uf) rfl
      have c3 := cellU hx 3 (v := .int .i64 ut) rfl
      have HB1 := Lib.hid hb
      clear hx hb hQ k0 k1 k2 k3
      cases hbb : d.testBit i
      · rw [hbb] at hbit
        simp only [Bool.false_eq_true, if_false] at hbit
        have HBB := Lib.hid hbb
        clear hbb
        by_cases ht : ut < 1073741824
        · simp only [ht, decide_true] at ce
          have HT := Lib.hid ht
          clear ht
          go_wp2_with fail
          refine Calls.mono (ce _) ?_
          rintro e w2 ⟨rfl, hb2⟩
          have HB2 := Lib.hid (HB1.out.trans (hb2.mono HB1.out.size))
          clear hb2 ce
          go_wp2_with fail
          go_ret
          exact ⟨BR.f fun q => q i _ HU.out HBB.out HT.out, HB2.out⟩
        · simp only [ht, decide_false] at ce
          go_wp2_with fail
          refine Calls.mono (ce _) ?_
          rintro e w2 ⟨rfl, hb2⟩
          have HB2 := Lib.hid (HB1.out.trans (hb2.mono HB1.out.size))
          have HT := Lib.hid ht
          clear hb2 ce ht
          go_wp2_with fail
          go_roundw
          case rel => exact ⟨i + 1, by omega, by go_num, Lib.hid (HG.out.next HU.out (.inr (by have := HT.out; show ¬ ut < _; omega))), HB2⟩
          case measure => simp [intOf]; omega
      · rw [hbb] at hbit
        simp only [if_true] at hbit
        have HBB := Lib.hid hbb
        clear hbb ce
        go_wp2_with fail
        go_roundw
        case rel => exact ⟨i + 1, by omega, by go_num, Lib.hid (HG.out.next HU.out (.inl HBB.out)), HB1⟩
        case measure => simp [intOf]; omega
    · obtain rfl : i = n := by omega
      go_wp2_with fail
      go_ret
      exact ⟨BR.t (HG.out.all HLL.out), HW.out⟩
set_option maxHeartbeats 1600000 in
theorem sfirst40 (l : List US) (a : Option Addr) (n cap M d : Nat) (x : US) (w : World) (h : SR w (.slice a n cap) 4 n (uCs l)) (hd : d < 4096) (hn : n ≤ 12) :
    Calls Try.prog 34 #[.agg #[.slice a n cap, .map (some M)], .int .u64 (d : Nat), .agg #[.bool x.w, .string x.v, .int .i64 x.f, .int .i64 x.t]] w fun e w' => BR e (Fst l d x.f) ∧ Below w.heap.size w w' := by
  have HLL := Lib.hid (sr_len4 h)
  have HSR := Lib.hid h
  obtain ⟨xw, xv, xf, xt⟩ := x
  simp only
  have hx0 := heap_alloc_self w (.cells #[.slice a n cap, .map (some M)] 75)
  have hb0 := (Below.refl w.heap.size w).alloc (Nat.le_refl _) (.cells #[.slice a n cap, .map (some M)] 75)
  have hx1 := heap_alloc_self (w.alloc (.cells #[.slice a n cap, .map (some M)] 75)) (.cells #[.bool xw, .string xv, .int .i64 xf, .int .i64 xt] 72)
  have hb1 := hb0.alloc hb0.size (.cells #[.bool xw, .string xv, .int .i64 xf, .int .i64 xt] 72)
  rw [show (w.alloc (.cells #[.slice a n cap, .map (some M)] 75)).heap.size = w.heap.size + 1 by simp] at hx1
  have hx0' := (Below.heap_alloc _ (.cells #[.bool xw, .string xv, .int .i64 xf, .int .i64 xt] 72) _ (lt_heap hx0)).trans hx0
  clear h
  go_enter Try.func34, Try.ntmps34
  go_upto_region 1 with fail
  generalize (w.alloc (.cells #[.slice a n cap, .map (some M)] 75)).alloc (.cells #[.bool xw, .string xv, .int .i64 xf, .int .i64 xt] 72) = w1 at *
  have c0 := cellU hx0' 0 (v := .slice a n cap) rfl
  have HB := Lib.hid (And.intro hx1 hb1)
  clear hx0 hx1 hb0 hb1 hx0'
  go_wp2_with fail
  obtain ⟨P, hP⟩ : ∃ P, w.heap.size + 1 = P := ⟨_, rfl⟩
  rw [hP] at HB ⊢
  clear hP
  go_loopw [12] (fun iv wr => ∃ i : Nat, i ≤ n ∧ iv = .int .i64 i ∧ Hid (FsTo l d xf i) ∧ Hid (wr.heap[P]? = some (.cells #[.bool xw, .string xv, .int .i64 xf, .int .i64 xt] 72) ∧ Below w.heap.size w wr)) (fun iv _ => n - (intOf iv).toNat)
  case atStart => exact ⟨0, Nat.zero_le _, rfl, Lib.hid (fun j u hj => by omega), HB⟩
  case round =>
    obtain ⟨i, hi, rfl, HG, HW⟩ := hrel
    clear c0
    by_cases hin : i < n
    · obtain ⟨b, off, u, rfl, hu, k0, k1, k2, k3⟩ := use_at (HSR.out.below HW.out.2) i hin
      obtain ⟨K, hK, hbit⟩ := bit_of d i hd
      have HU := Lib.hid hu
      obtain ⟨uw, uv, uf, ut⟩ := u
      simp only at k0 k1 k2 k3
      have hx := heap_alloc_self wr (.cells #[.bool uw, .string uv, .int .i64 uf, .int .i64 ut] 72)
      have hb := HW.out.2.alloc HW.out.2.size (.cells #[.bool uw, .string uv, .int .i64 uf, .int .i64 ut] 72)
      have hy := (Below.heap_alloc _ (.cells #[.bool uw, .string uv, .int .i64 uf, .int .i64 ut] 72) _ (lt_heap HW.out.1)).trans HW.out.1
      clear hu
      have hi12 : i < 12 := by omega
      go_upto_region 4 with fail
      generalize wr.alloc (.cells #[.bool uw, .string uv, .int .i64 uf, .int .i64 ut] 72) = W1 at *
      obtain ⟨Q, hQ⟩ : ∃ Q, wr.heap.size = Q := ⟨_, rfl⟩
      rw [hQ] at hx
      simp only [hQ]
      have c3 := cellU hx 3 (v := .int .i64 ut) rfl
      have d2 := cellU hy 2 (v := .int .i64 xf) rfl
      have HB1 := Lib.hid (And.intro hy hb)
      clear hx hb hy hQ k0 k1 k2 k3
      cases hbb : d.testBit i
      · rw [hbb] at hbit
        simp only [Bool.false_eq_true, if_false] at hbit
        have HBB := Lib.hid hbb
        clear hbb
        by_cases ht : ut < xf
        · have HT := Lib.hid ht
          go_wp2_with fail
          go_ret
          exact ⟨BR.f fun q => q i _ HU.out HBB.out HT.out, HB1.out.2⟩
        · have HT := Lib.hid (show ¬ ut < xf from ht)
          go_wp2_with fail
          go_roundw
          case rel => exact ⟨i + 1, by omega, by go_num, Lib.hid (HG.out.next HU.out (.inr (by have := HT.out; show ¬ ut < _; omega))), HB1⟩
          case measure => simp [intOf]; omega
      · rw [hbb] at hbit
        simp only [if_true] at hbit
        have HBB := Lib.hid hbb
        clear hbb
        go_wp2_with fail
        go_roundw
        case rel => exact ⟨i + 1, by omega, by go_num, Lib.hid (HG.out.next HU.out (.inl HBB.out)), HB1⟩
        case measure => simp [intOf]; omega
    · obtain rfl : i = n := by omega
      go_wp2_with fail
      go_ret
      exact ⟨BR.t (HG.out.all HLL.out), HW.out.2⟩
end Go.Proofs.Ytodjlaapmbnahaa
