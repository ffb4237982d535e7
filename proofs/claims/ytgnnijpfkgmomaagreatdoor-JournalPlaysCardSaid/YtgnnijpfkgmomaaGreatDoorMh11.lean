/-
  Several texts, laid together.
-/
import Derived.Test.YtgnnijpfkgmomaaGreatDoorMh9
import Derived.Test.YtgnnijpfkgmomaaGreatDoorBuild
/-
  area.Read.
-/


namespace Go.Proofs.YtgnnijpfkgmomaaGreatDoor
open Go.RowKit
set_option linter.unusedVariables false
set_option linter.unusedSimpArgs false

theorem bt_at {B b : Nat} {p : Value} {bs : List Value} {w w' : World} (h : Lib.BuilderAt 108 5 B b p bs w) (hb : Below w.heap.size w w') : Lib.BuilderAt 108 5 B b p bs w' := by
  have hlt := h.lt
  obtain ⟨hB, v, ho, hown, hne⟩ := h
  exact ⟨hB, v, (hb.block b hlt).trans ho, owns_below hown hb, hne⟩
theorem bt_below {B b : Nat} {l : List UInt8} {w w' : World} (h : BT B b l w) (hb : Below w.heap.size w w') : BT B b l w' := h.imp (fun h => bt_at h hb) (fun h => bt_at h hb)
/-- bytes of the disk, as far as they are read -/
def GotB (S : List ByteArray) (L : List (Nat × ByteArray)) (B k : Nat) (l : List UInt8) : Prop := l.length = k ∧ ∀ j, j < k → l.getD j 0 = flatD S L (B + j)
theorem GotB.step {S : List ByteArray} {L : List (Nat × ByteArray)} {B k sec i m : Nat} {l : List UInt8} {X : ByteArray} (h : GotB S L B k l) (hX : X = curD S L sec) (hs : X.size = 64) (hsec : (B + k) / 64 = sec) (hi : (B + k) % 64 = i) (him : i + m ≤ 64) : GotB S L B (k + m) (l ++ (X.extract i (i + m)).data.toList) := by
  have hl : (X.extract i (i + m)).data.toList.length = m := by
    show (X.extract i (i + m)).size = m
    rw [ext_sz _ _ _ (by omega)]; omega
  refine ⟨by rw [List.length_append, h.1, hl], fun j hj => ?_⟩
  rw [List.getD_eq_getElem?_getD, List.getElem?_append]
  by_cases hjk : j < k
  · rw [if_pos (by rw [h.1]; exact hjk), ← List.getD_eq_getElem?_getD]
    exact h.2 j hjk
  · rw [if_neg (by rw [h.1]; exact hjk), ← List.getD_eq_getElem?_getD, h.1]
    have e := atB_ext X i (i + m) (j - k) (by omega)
    unfold atB at e
    rw [e]
    unfold flatD atB
    rw [show (B + j) / 64 = sec by omega, show (B + j) % 64 = i + (j - k) by omega, hX]
/-- what Read answers -/
def ARead (w : World) (S : List ByteArray) (L : List (Nat × ByteArray)) (B n : Nat) (e : Ending) (w' : World) : Prop :=
  ∃ (r : Int) (l : List UInt8), e = .returned (.tuple #[.string ⟨l.toArray⟩, .int .i64 r]) ∧ (r = 0 → GotB S L B n l) ∧ (r ≠ 0 → r = 1 ∧ l = []) ∧ (B + n ≤ 64 * S.length → r = 0) ∧ Below w.heap.size w w'
theorem aread_bad (d : Value) (f l at' n : Int) (w : World) (hat : -9223372036854775808 ≤ at' ∧ at' ≤ 9223372036854775807) (h : withinA f l at' n = false) : Calls Tryz.prog 60 #[d, areaV f l, .int .i64 at', .int .i64 n] w fun e w' => e = .returned (.tuple #[.string ⟨#[]⟩, .int .i64 1]) ∧ Below w.heap.size w w' := by
  have c := fun w => awithin f l at' n w hat
  simp only [h] at c
  unfold areaV at *
  clear h hat
  go_enter Tryz.func60, Tryz.ntmps60
  go_wp2_with fail
  refine Calls.mono (c _) ?_
  rintro e w2 ⟨rfl, hb⟩
  have HB := Lib.hid (alloc_below hb)
  clear hb
  go_wp2_with fail
  go_returns
  exact ⟨rfl, HB.out⟩
set_option maxHeartbeats 3200000 in
set_option maxRecDepth 100000 in
theorem aread (f l at' n : Nat) (w : World) (N p : Nat) (sv lv : Value) (S : List ByteArray) (L : List (Nat × ByteArray)) (hd : Dsk w N p sv lv S L) (hL : L.length ≤ 1000000) (hw : withinA f l at' n = true) :
    Calls Tryz.prog 60 #[.pointer (some ⟨p, 0, none⟩), areaV f l, .int .i64 at', .int .i64 n] w (ARead w S L (64 * f + at') n) := by
  obtain ⟨g1, g2, g3, g4, g5⟩ : f ≤ 4096 ∧ 1 ≤ l ∧ l ≤ 4096 ∧ at' ≤ 64 * l ∧ n ≤ 64 * l - at' := by
    unfold withinA at hw
    simp only [Bool.and_eq_true, decide_eq_true_eq] at hw
    obtain ⟨⟨⟨⟨h1, h2⟩, h3⟩, h4⟩, h5⟩ := hw
    have hm := (mayA_iff f l).1 h1
    unfold bytesA at h4 h5
    rw [if_pos h1] at h4 h5
    omega
  have c := fun w => awithin f l at' n w (by omega)
  simp only [hw] at c
  have hnb : n ≤ 262144 := by omega
  have hab : at' ≤ 262144 := by omega
  have HD := Lib.hid hd
  have HX := Lib.hid (heap_alloc_self w (.cells #[.int .i64 f, .int .i64 l] 72))
  unfold areaV at *
  clear hw hd
  go_enter Tryz.func60, Tryz.ntmps60
  go_wp2_with fail
  refine Calls.mono (c _) ?_
  rintro e w2 ⟨rfl, hb⟩
  have HX2 := Lib.hid ((hb.block w.heap.size (by simp)).trans HX.out)
  have HB2 := Lib.hid (alloc_below hb)
  have HD2 := Lib.hid (HD.out.below HB2.out)
  obtain ⟨q, hq⟩ : ∃ q, w.heap.size = q := ⟨_, rfl⟩
  rw [hq] at HX2
  try rw [hq]
  have hcell : ∀ wr, Below w2.heap.size w2 wr → wr.heap[q]? = some (.cells #[.int .i64 f, .int .i64 l] 72) := fun wr hk => (hk.block q (lt_heap HX2.out)).trans HX2.out
  have HC := Lib.hid hcell
  have HBF := Lib.hid (bfresh w2)
  have HB0 := Lib.hid ((Below.refl w2.heap.size w2).alloc (Nat.le_refl _) (.cells #[.pointer none, .slice none 0 0] 108))
  clear hcell hb c HX hq
  go_upto_region 4 with fail
  generalize w2.alloc (.cells #[.pointer none, .slice none 0 0] 108) = w3 at *
  obtain ⟨b, hb⟩ : ∃ b, w2.heap.size = b := ⟨_, rfl⟩
  rw [hb] at HBF HB0 HC ⊢
  have HBb := Lib.hid hb
  clear hb
  go_loopw [2, 3] (fun tv nv wr => ∃ (k R T : Nat) (bs : List UInt8), k + R = n ∧ T = at' + k ∧ tv = .int .i64 T ∧ nv = .int .i64 R ∧ GotB S L (64 * f + at') k bs ∧ BT b b bs wr ∧ Below b w2 wr) (fun _ nv _ => (intOf nv).toNat)
  case atStart => exact ⟨0, n, at', [], by omega, rfl, rfl, rfl, ⟨rfl, fun j hj => by omega⟩, HBF.out, HB0.out⟩
  case round =>
    obtain ⟨k, R, T, bs, hkR, hT, rfl, rfl, hg, hbt, hbr⟩ := hrel
    have HG := Lib.hid hg
    have HBT := Lib.hid hbt
    have HBR := Lib.hid hbr
    have hbw : b ≤ wr.heap.size := by have := hbr.size; have := HBb.out; omega
    have hx := HC.out wr hbr
    have c0 : wr.cell? ⟨q, 0, none⟩ = some (.int .i64 f) := by simp [World.cell?, hx]
    have c1 : wr.cell? ⟨q, 1, none⟩ = some (.int .i64 l) := by simp [World.cell?, hx]
    clear hg hbt hbr hx
    by_cases hlt : 0 < R
    · have hlti : 0 < (R : Int) := by omega
      have cp := fun w => apiece f l T R w (by omega) (by omega) (by omega) (by omega)
      obtain ⟨i, hi⟩ : ∃ i, T % 64 = i := ⟨_, rfl⟩
      obtain ⟨m, hm⟩ : ∃ m, min R (64 - i) = m := ⟨_, rfl⟩
      obtain ⟨sec, hsec⟩ : ∃ sec, f + T / 64 = sec := ⟨_, rfl⟩
      simp only [hi, hm, show ((f : Int) + (T : Int) / 64) = (sec : Int) by omega] at cp
      have hi1 : i < 64 := by omega
      have hm1 : i + m ≤ 64 := by omega
      have hm2 : m ≤ R := by omega
      have hm3 : 0 < m := by omega
      have hsl : sec ≤ 10000 := by omega
      have hTb : T ≤ 1000000 := by omega
      have hRb : R ≤ 1000000 := by omega
      have k7 : (i : Int) ≤ 64 := by omega
      have k8 : (m : Int) ≤ R := by omega
      have k4 : ((i : Int) + (m : Int)) ≤ 64 := by omega
      have HF := Lib.hid (And.intro hi (And.intro hm (And.intro hsec (And.intro hkR hT))))
      have HD3 := Lib.hid (HD2.out.below (show Below w2.heap.size w2 wr by rw [HBb.out]; exact HBR.out))
      unfold areaV at cp
      clear hi hm hsec hkR hT
      go_wp2_with fail
      refine Calls.mono (cp _) ?_
      rintro e w4 ⟨rfl, hb⟩
      have HB4 := Lib.hid hb
      have HD4 := Lib.hid (HD3.out.below hb)
      clear hb cp c0 c1
      by_cases hin : sec < S.length
      · have cr := dread sec w4 N p sv lv S L HD4.out hin (by omega)
        have hXs := curD_size HD4.out.sizes HD4.out.ats sec hin
        obtain ⟨X, hX⟩ : ∃ X, curD S L sec = X := ⟨_, rfl⟩
        rw [hX] at cr hXs
        have hXi : (X.size : Int) = 64 := by omega
        obtain ⟨A, hA⟩ : ∃ A, X.extract i (i + m) = A := ⟨_, rfl⟩
        have hAs : A.size = m := by rw [← hA, ext_sz _ _ _ (by omega)]; omega
        have HGN := Lib.hid (HG.out.step hX.symm hXs (by have := HF.out; omega) (by have := HF.out; omega) hm1)
        rw [hA] at HGN
        have hlen : bs.length = k := HG.out.1
        have cwr := fun (w' : World) (hb : Below wr.heap.size wr w') => bwrite b b bs A w' (bt_below HBT.out hb) (by rw [hlen, hAs]; have := HF.out; omega) (Nat.le_trans hbw hb.size)
        have CW := Lib.hid cwr
        have HAS := Lib.hid hAs
        clear hX hXs hlen cwr hAs
        go_wp2_with fail
        refine Calls.mono cr ?_
        rintro e w5 ⟨rfl, hb⟩
        have hb5 := below_trans HB4.out hb HB4.out.size
        have HB5 := Lib.hid hb5
        have cww := CW.out w5 hb5
        clear hb cr hb5 CW
        go_wp2_with fail
        refine Calls.mono cww ?_
        rintro e w6 ⟨rfl, hbt, hb⟩
        have HBT6 := Lib.hid hbt
        have HB6 := Lib.hid ((HBR.out.trans (HB5.out.mono hbw)).trans hb)
        clear hbt hb cww hA
        go_wp2_with fail
        go_roundw
        case rel => exact ⟨k + m, R - m, T + m, _, by have := HF.out; omega, by have := HF.out; omega, by go_num, by first | go_num | exact congrArg (Value.int .i64) (by omega), HGN.out, HBT6.out, HB6.out⟩
        case measure => simp [intOf]; omega
      · have hv : rdI S L sec = ⟨#[]⟩ := by unfold rdI; rw [if_neg (by omega)]
        have hev : erI S sec = 1 := by unfold erI; rw [if_neg (by omega)]
        have cr := read_any sec w4 N p sv lv S L HD4.out (by omega)
        rw [hv, hev] at cr
        clear hv hev
        go_wp2_with fail
        refine Calls.mono cr ?_
        rintro e w5 ⟨rfl, hb⟩
        have HB5 := Lib.hid (below_trans HB4.out hb HB4.out.size)
        clear hb cr
        go_wp2_with fail
        go_returns
        exact ⟨1, [], rfl, fun h => by omega, fun _ => ⟨rfl, rfl⟩, fun h => by have := HF.out; omega, HB2.out.trans ((HBR.out.trans (HB5.out.mono hbw)).mono (by have := HB2.out.size; have := HBb.out; omega))⟩
    · obtain rfl : R = 0 := by omega
      obtain rfl : k = n := by omega
      have cs := bstring b b bs wr HBT.out hbw
      clear c0 c1
      go_wp2_with fail
      refine Calls.mono cs ?_
      rintro e w5 ⟨rfl, hb⟩
      have HB5 := Lib.hid (HBR.out.trans hb)
      clear hb cs
      go_wp2_with fail
      go_returns
      exact ⟨0, bs, rfl, fun _ => HG.out, fun h => absurd rfl h, fun _ => rfl, HB2.out.trans (HB5.out.mono (by have := HB2.out.size; have := HBb.out; omega))⟩
end Go.Proofs.YtgnnijpfkgmomaaGreatDoor
/-
  The waking call of layer 6; AreaTorn.
-/

namespace Go.Proofs.YtgnnijpfkgmomaaGreatDoor
open Go.RowKit
set_option linter.unusedVariables false
set_option linter.unusedSimpArgs false

theorem got_string {l : List UInt8} {s : ByteArray} (hl : l.length = s.size) (h : ∀ j, j < s.size → l.getD j 0 = atB s j) : (⟨l.toArray⟩ : ByteArray) = s := by
  apply str_ext
  show l = s.data.toList
  apply List.ext_getElem?
  intro j
  have hs : s.data.toList.length = s.size := rfl
  by_cases hj : j < s.size
  · have e := h j hj
    unfold atB at e
    rw [List.getD_eq_getElem?_getD, List.getD_eq_getElem?_getD] at e
    rw [List.getElem?_eq_getElem (by omega), List.getElem?_eq_getElem (by omega)] at e ⊢
    simpa using e
  · rw [List.getElem?_eq_none (by omega), List.getElem?_eq_none (by omega)]
/-- a block that is none of the disk's -/
theorem DKept.other {w1 w2 wr : World} {N p q : Nat} {sv lv lv2 : Value} {S : List ByteArray} {L : List (Nat × ByteArray)} {o : Obj} (hd : Dsk w1 N p sv lv S L) (hk : DKept w2 wr N p sv lv lv2) (hx : w2.heap[q]? = some o) (hq : w1.heap.size ≤ q) : wr.heap[q]? = some o :=
  (hk.block q (lt_heap hx) (fun e => by have := hd.lt; omega) (fun e => by have := (hd.sure.lt q e.symm).2; omega) (fun e => by have := (hd.later.lt q e.symm).2; omega)).trans hx
theorem curD_cons (S : List ByteArray) (x : Nat × ByteArray) (L : List (Nat × ByteArray)) (i : Nat) (hi : i < S.length) : curD S (x :: L) i = curD (S.set x.1 x.2) L i := by
  unfold curD
  rw [List.reverse_cons, List.find?_append]
  cases hf : L.reverse.find? (fun x => x.1 == i) with
  | some y => simp
  | none =>
    by_cases h : x.1 = i
    · subst h
      simp [List.getD_eq_getElem?_getD, hi]
    · have h' : (x.1 == i) = false := by simpa using h
      simp [h', List.getD_eq_getElem?_getD, List.getElem?_set_ne h]
theorem sync_cur (S : List ByteArray) (L : List (Nat × ByteArray)) (i : Nat) (hi : i < S.length) : curD (syncS S L) [] i = curD S L i := by
  unfold syncS
  have : ∀ (L : List (Nat × ByteArray)) (k : Nat) (S : List ByteArray), i < S.length → curD (endS (fun _ => 1) k S L) [] i = curD S L i := by
    intro L
    induction L with
    | nil => intro k S _; rfl
    | cons x L ih =>
      intro k S hi
      have h1 : fateS 1 S x = S.set x.1 x.2 := by unfold fateS; rw [if_pos rfl]
      show curD (endS (fun _ => 1) (k + 1) (fateS 1 S x) L) [] i = _
      rw [ih _ _ (by rw [fateS_length]; exact hi), h1, curD_cons S x L i hi]
  exact this L 0 S hi
theorem flat_nil (S : List ByteArray) (j : Nat) : flatD S [] j = atB (S.getD (j / 64) ⟨#[]⟩) (j % 64) := by
  unfold flatD curD
  rfl
/-- what a fate leaves of bytes that a writing has as they are -/
theorem fate_same (f : Int) (S : List ByteArray) (x : Nat × ByteArray) (T : Nat) (hS : ∀ s ∈ S, s.size = 64) (hx : x.1 < S.length ∧ x.2.size = 64) (h : ∀ q, q < 64 → 64 * x.1 + q < T → atB x.2 q = flatD S [] (64 * x.1 + q)) (j : Nat) (hj : j < T) : flatD (fateS f S x) [] j = flatD S [] j := by
  have hw : (S.getD x.1 ⟨#[]⟩).size = 64 := by
    rw [List.getD_eq_getElem?_getD, List.getElem?_eq_getElem hx.1]
    exact hS _ (List.getElem_mem _)
  have hset : ∀ v : ByteArray, (∀ q, q < 64 → 64 * x.1 + q < T → atB v q = flatD S [] (64 * x.1 + q)) → flatD (S.set x.1 v) [] j = flatD S [] j := by
    intro v hv
    by_cases hk : x.1 = j / 64
    · have hm : j % 64 < 64 := Nat.mod_lt _ (by omega)
      have := hv (j % 64) hm (by omega)
      rw [show 64 * x.1 + j % 64 = j by omega] at this
      rw [← this, flat_nil, List.getD_eq_getElem?_getD, ← hk, List.getElem?_set_self hx.1]
      rfl
    · rw [flat_nil, flat_nil, List.getD_eq_getElem?_getD, List.getElem?_set_ne hk, ← List.getD_eq_getElem?_getD]
  have hold : ∀ q, q < 64 → atB (S.getD x.1 ⟨#[]⟩) q = flatD S [] (64 * x.1 + q) := by
    intro q hq
    rw [flat_nil, show (64 * x.1 + q) / 64 = x.1 by omega, show (64 * x.1 + q) % 64 = q by omega]
  have hmix : ∀ a b : ByteArray, a.size = 64 → b.size = 64 → (∀ q, q < 64 → 64 * x.1 + q < T → atB a q = flatD S [] (64 * x.1 + q)) → (∀ q, q < 64 → 64 * x.1 + q < T → atB b q = flatD S [] (64 * x.1 + q)) → ∀ q, q < 64 → 64 * x.1 + q < T → atB (frontS a ++ backS b) q = flatD S [] (64 * x.1 + q) := by
    intro a b ha hb ga gb q hq hqt
    rw [atB_app, front_size ha]
    by_cases h32 : q < 32
    · rw [if_pos h32]
      unfold frontS
      rw [atB_ext _ _ _ _ (by omega), Nat.zero_add]
      exact ga q hq hqt
    · rw [if_neg h32]
      unfold backS
      rw [atB_ext _ _ _ _ (by omega), show 32 + (q - 32) = q by omega]
      exact gb q hq hqt
  unfold fateS
  repeat' split
  · exact hset _ h
  · exact hset _ (hmix _ _ hx.2 hw h (fun q hq _ => hold q hq))
  · exact hset _ (hmix _ _ hw hx.2 (fun q hq _ => hold q hq) h)
  · rfl
theorem end_same (fate : Nat → Int) (T : Nat) : ∀ (L : List (Nat × ByteArray)) (k : Nat) (S : List ByteArray), (∀ s ∈ S, s.size = 64) → (∀ x ∈ L, x.1 < S.length ∧ x.2.size = 64) → (∀ x ∈ L, ∀ q, q < 64 → 64 * x.1 + q < T → atB x.2 q = flatD S [] (64 * x.1 + q)) → ∀ j, j < T → flatD (endS fate k S L) [] j = flatD S [] j := by
  intro L
  induction L with
  | nil => intro k S _ _ _ j _; rfl
  | cons x L ih =>
    intro k S hS hL h j hj
    have hx := hL x (by simp)
    have hsame := fate_same (fate k) S x T hS hx (h x (by simp))
    show flatD (endS fate (k + 1) (fateS (fate k) S x) L) [] j = _
    rw [ih (k + 1) _ (fateS_sizes _ _ _ hS hx) (fun y hy => by rw [fateS_length]; exact hL y (by simp [hy])) (fun y hy q hq hqt => by rw [hsame _ hqt]; exact h y (by simp [hy]) q hq hqt) j hj]
    exact hsame j hj
end Go.Proofs.YtgnnijpfkgmomaaGreatDoor
