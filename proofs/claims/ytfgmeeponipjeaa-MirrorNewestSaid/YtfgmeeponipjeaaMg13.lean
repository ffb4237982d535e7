/-
  Several texts, laid together.
-/
import Derived.Test.YtfgmeeponipjeaaMg12
import Derived.Test.YtfgmeeponipjeaaMg1
import Derived.Deep.Slices
import Derived.OpenShut
import Derived.Test.YtfgmeeponipjeaaMg9
/-
  What was put is taken again: plain facts; NumBack's walk.
-/

namespace Go.Proofs.Ytfgmeeponipjeaa
open Go.RowKit
set_option linter.unusedVariables false

theorem takeB_ok (s : List UInt8) (n : Nat) (h : n ≤ s.length) : (⟨s, 0⟩ : RS).takeB (n : Int) = s.take n := by
  have : ¬ ((n : Int) < 0 ∨ (s.length : Int) < n) := by omega
  rw [RS.takeB, if_neg (by simp), if_neg this]
  simp
theorem takeS_ok (s : List UInt8) (n : Nat) (h : n ≤ s.length) : (⟨s, 0⟩ : RS).takeS (n : Int) = ⟨s.drop n, 0⟩ := by
  have : ¬ ((n : Int) < 0 ∨ (s.length : Int) < n) := by omega
  rw [RS.takeS, if_neg (by simp), if_neg this]
  simp
theorem num_head (c : UInt8) (s : List UInt8) (L : Nat) (hc : c.toNat ≤ 8) (hs : c.toNat ≤ s.length) :
    (⟨c :: s, 0⟩ : RS).numV L = numV2 (s.take c.toNat) L ∧ (⟨c :: s, 0⟩ : RS).numS L = numS2 ⟨s.drop c.toNat, 0⟩ (s.take c.toNat) L := by
  have b1 : (⟨c :: s, 0⟩ : RS).takeB 1 = [c] := takeB_ok (c :: s) 1 (by simp)
  have s1 : (⟨c :: s, 0⟩ : RS).takeS 1 = ⟨s, 0⟩ := takeS_ok (c :: s) 1 (by simp)
  have hn : ¬ 8 < c.toNat := by omega
  constructor
  · rw [RS.numV, b1, s1, numV1, if_neg (by simp)]
    show (if 8 < c.toNat then 0 else numV2 ((⟨s, 0⟩ : RS).takeB c.toNat) L) = _
    rw [if_neg hn, takeB_ok s _ hs]
  · rw [RS.numS, b1, s1, numS1, if_neg (by simp)]
    show (if 8 < c.toNat then (⟨s, 0⟩ : RS).fail 3 else numS2 ((⟨s, 0⟩ : RS).takeS c.toNat) ((⟨s, 0⟩ : RS).takeB c.toNat) L) = _
    rw [if_neg hn, takeB_ok s _ hs, takeS_ok s _ hs]
theorem num_put (n : Nat) (h : n < 18446744073709551616) (rest : List UInt8) (L : Nat) (hL : n ≤ L) :
    (⟨putN n ++ rest, 0⟩ : RS).numV L = n ∧ (⟨putN n ++ rest, 0⟩ : RS).numS L = ⟨rest, 0⟩ := by
  have hl := needN_le n h
  have hc : (UInt8.ofNat (needN n)).toNat = needN n := by simp; omega
  have hlen : (hiN n).length = needN n := hiN_length n
  have e : putN n ++ rest = UInt8.ofNat (needN n) :: (hiN n ++ rest) := rfl
  have ht : (hiN n ++ rest).take (needN n) = hiN n := by rw [← hlen]; exact List.take_left
  have hd : (hiN n ++ rest).drop (needN n) = rest := by rw [← hlen]; exact List.drop_left
  obtain ⟨h1, h2⟩ := num_head (UInt8.ofNat (needN n)) (hiN n ++ rest) L (by omega) (by rw [hc, List.length_append]; omega)
  rw [e, h1, h2, hc, ht, hd]
  by_cases h0 : n = 0
  · subst h0
    rw [hiN_zero]
    exact ⟨rfl, rfl⟩
  · obtain ⟨c, l, hcl, hcn⟩ := hiN_head n h0 h
    have hv := valN_hiN n h
    rw [hcl] at hv ⊢
    have : ¬ ((c :: l).getD 0 0 = 0 ∨ L < valN (c :: l)) := by
      rw [hv]
      intro hx
      exact hx.elim (fun e => hcn (by simpa using e)) (by omega)
    rw [numV2, numS2, if_neg (by simp), if_neg this, if_neg (by simp), if_neg this]
    exact ⟨hv, rfl⟩
theorem text_put (b rest : List UInt8) (L : Int) (hL : b.length ≤ L) (h16 : b.length ≤ 65536) :
    (⟨putN b.length ++ b ++ rest, 0⟩ : RS).textB L = b ∧ (⟨putN b.length ++ b ++ rest, 0⟩ : RS).textS L = ⟨rest, 0⟩ := by
  obtain ⟨h1, h2⟩ := num_put b.length (by omega) (b ++ rest) (min L 65536).toNat (by omega)
  rw [RS.textB, RS.textS, List.append_assoc, h1, h2, takeB_ok _ _ (by simp), takeS_ok _ _ (by simp)]
  exact ⟨List.take_left, by rw [List.drop_left]⟩
theorem word_put (n : Nat) (h : n ≤ 4294967295) (rest : List UInt8) : (⟨beN 4 n ++ rest, 0⟩ : RS).wordV = n ∧ (⟨beN 4 n ++ rest, 0⟩ : RS).takeS 4 = ⟨rest, 0⟩ := by
  have hl : (beN 4 n).length = 4 := beN_length 4 n
  have b1 := takeB_ok (beN 4 n ++ rest) 4 (by rw [List.length_append]; omega)
  have s1 := takeS_ok (beN 4 n ++ rest) 4 (by rw [List.length_append]; omega)
  have ht : (beN 4 n ++ rest).take 4 = beN 4 n := by rw [← hl]; exact List.take_left
  have hd : (beN 4 n ++ rest).drop 4 = rest := by rw [← hl]; exact List.drop_left
  refine ⟨?_, by rw [show (4 : Int) = ((4 : Nat) : Int) from rfl, s1, hd]⟩
  rw [RS.wordV, show (4 : Int) = ((4 : Nat) : Int) from rfl, b1, ht, valN_beN, Nat.mod_eq_of_lt (by omega)]
def flatN (l : List Int) : List UInt8 := l.flatMap fun x => putN x.toNat
theorem ints_put (l : List Int) (rest : List UInt8) (L : Nat) (hl : ∀ x ∈ l, 0 ≤ x ∧ x ≤ (L : Int)) (hL : L < 18446744073709551616) (k : Nat) (hk : k ≤ l.length) :
    intsR ⟨flatN l ++ rest, 0⟩ L k = (⟨flatN (l.drop k) ++ rest, 0⟩, l.take k) := by
  induction k with
  | zero => simp [intsR]
  | succ k ih =>
    have hlt : k < l.length := by omega
    have hx := hl l[k] (List.getElem_mem hlt)
    have hd : l.drop k = l[k] :: l.drop (k + 1) := List.drop_eq_getElem_cons hlt
    have e : flatN (l.drop k) ++ rest = putN l[k].toNat ++ (flatN (l.drop (k + 1)) ++ rest) := by rw [hd, flatN, List.flatMap_cons, List.append_assoc]; rfl
    obtain ⟨h1, h2⟩ := num_put l[k].toNat (by omega) (flatN (l.drop (k + 1)) ++ rest) L (by omega)
    rw [intsR, ih (by omega), if_neg (by simp)]
    simp only
    rw [e, h1, h2, List.take_succ_eq_append_getElem hlt, Int.toNat_of_nonneg hx.1]
theorem list_put (l : List Int) (rest : List UInt8) (many limit : Int) (hm : l.length ≤ many) (hL : limit ≤ 9223372036854775807) (hl : ∀ x ∈ l, 0 ≤ x ∧ x ≤ limit) (hn : l.length ≤ 1000) :
    (⟨listN l ++ rest, 0⟩ : RS).listV many limit = l ∧ (⟨listN l ++ rest, 0⟩ : RS).listS many limit = ⟨rest, 0⟩ := by
  obtain ⟨h1, h2⟩ := num_put l.length (by omega) (flatN l ++ rest) many.toNat (by omega)
  have e : listN l ++ rest = putN l.length ++ (flatN l ++ rest) := by simp [listN, flatN]
  have hi := ints_put l rest limit.toNat (fun x hx => ⟨(hl x hx).1, by have := hl x hx; omega⟩) (by omega) l.length (Nat.le_refl _)
  have hS : (⟨listN l ++ rest, 0⟩ : RS).listS many limit = ⟨rest, 0⟩ := by
    rw [RS.listS, e, h1, h2, hi]
    simp [flatN]
  refine ⟨?_, hS⟩
  rw [RS.listV, hS, if_neg (by simp), e, h1, h2, hi]
  simp

theorem num_long (l : List UInt8) (h : l.length ≤ 7) (L : Nat) :
    (⟨UInt8.ofNat (l.length + 1) :: 0 :: l, 0⟩ : RS).numV L = 0 ∧ (⟨UInt8.ofNat (l.length + 1) :: 0 :: l, 0⟩ : RS).numS L = ⟨[], 3⟩ := by
  have hc : (UInt8.ofNat (l.length + 1)).toNat = l.length + 1 := by simp; omega
  obtain ⟨h1, h2⟩ := num_head (UInt8.ofNat (l.length + 1)) (0 :: l) L (by omega) (by rw [hc]; simp)
  rw [h1, h2, hc]
  have ht : (0 :: l).take (l.length + 1) = 0 :: l := List.take_of_length_le (by simp)
  rw [ht, numV2, numS2]
  simp [RS.fail]
/-- bits of the lower 24 -/
theorem and24 (x : Int) : bits .and .i64 x 16777215 = x % 16777216 := by
  have hm : (BitVec.ofInt 64 16777215).toNat = 2 ^ 24 - 1 := by decide
  have hk : (BitVec.ofInt 64 x &&& BitVec.ofInt 64 16777215).toNat = (x % ((2 ^ 64 : Nat) : Int)).toNat % 2 ^ 24 := by
    rw [BitVec.toNat_and, BitVec.toNat_ofInt, hm, Nat.and_two_pow_sub_one_eq_mod]
  show IntKind.i64.wrap ((BitVec.ofInt 64 x &&& BitVec.ofInt 64 16777215).toNat : Nat) = x % 16777216
  rw [hk, IntKind.wrap_i64]
  omega
/-- a slice of the call's own reads as its numbers -/
theorem Ints.owned {w : World} {base : Nat} {v : Value} {l : List Int} (h : w.ownsRow base 3 1 v l.length (iCells l)) (hl : l.length ≤ 9223372036854775807) : Ints w v l := by
  rcases h.2 with ⟨rfl, hn⟩ | ⟨g, cap, cur, rfl, hb, hg, hnc, hcm, hcs, ht⟩
  · exact ⟨none, 0, by rw [hn], hl, .inl (List.eq_nil_of_length_eq_zero hn)⟩
  · refine ⟨some ⟨g, 0, none⟩, cap, rfl, hl, .inr ⟨g, 0, rfl, lt_heap hg, fun j hj => ?_⟩⟩
    have hc := h.cells (g := g) rfl j (.int .i64 (l.getD j 0)) (by simp [iCells, List.getD, hj])
    have ha : (⟨g, 0, none⟩ : Addr).add j = ⟨g, 0 + j, none⟩ := by unfold Addr.add; split <;> simp_all
    rw [← ha]
    exact hc

end Go.Proofs.Ytfgmeeponipjeaa
/-
  What an argument of any make reads as, by its shape: integers, bools, texts, structs and arrays of these, and slices of whatever may be such. Of no program.
-/



namespace Go.Proofs.Ytfgmeeponipjeaa
open Go.RowKit Go.Deep
set_option linter.unusedVariables false

/-- a shape: 'two a b' is a and b, one behind the other; a struct is its fields so, 'unit' at the end -/
inductive Sh where
  | int (k : IntKind) | bool | str | unit | two (a b : Sh) | slice (s : Sh)
def Sh.size : Sh → Nat | .int _ => 1 | .bool => 1 | .str => 1 | .unit => 0 | .two a b => a.size + b.size | .slice _ => 1
def Sh.rep (s : Sh) : Nat → Sh | 0 => .unit | n + 1 => .two s (s.rep n)
/-- cells that have a shape -/
def Fits (w : World) : Sh → List Value → Prop
  | .int k, cs => ∃ z, cs = [.int k z] ∧ (Lit.int k z).wf = true
  | .bool, cs => ∃ b, cs = [.bool b]
  | .str, cs => ∃ s : ByteArray, cs = [.string s] ∧ s.size ≤ maxLen
  | .unit, cs => cs = []
  | .two a b, cs => ∃ x y, cs = x ++ y ∧ Fits w a x ∧ Fits w b y
  | .slice s, cs => ∃ a len cap, cs = [.slice a len cap] ∧ len ≤ cap ∧ cap ≤ maxLen ∧ (len = 0 ∨ ∃ b off, a = some ⟨b, off, none⟩ ∧ b < w.heap.size ∧
      ∀ i, i < len → ∃ ys, ys.length = s.size ∧ (∀ (j : Nat) u, ys[j]? = some u → w.cell? ⟨b, off + i * s.size + j, none⟩ = some u) ∧ Fits w s ys)
theorem Fits.length {w : World} {s : Sh} {cs : List Value} (h : Fits w s cs) : cs.length = s.size := by
  induction s generalizing cs with
  | int k => obtain ⟨z, rfl, _⟩ := h; rfl
  | bool => obtain ⟨b, rfl⟩ := h; rfl
  | str => obtain ⟨s, rfl, _⟩ := h; rfl
  | unit => cases h; rfl
  | two a b iha ihb =>
    obtain ⟨x, y, rfl, hx, hy⟩ := h
    rw [List.length_append, iha hx, ihb hy]
    rfl
  | slice s _ => obtain ⟨a, len, cap, rfl, _⟩ := h; rfl

mutual
/-- a type has a shape -/
inductive IsSh (P : Program) : TypeId → Sh → Prop
  | int {t : TypeId} {k : IntKind} (h : P.underlying t = some (.int k)) : IsSh P t (.int k)
  | bool {t : TypeId} (h : P.underlying t = some .bool) : IsSh P t .bool
  | str {t : TypeId} (h : P.underlying t = some .string) : IsSh P t .str
  | slice {t e : TypeId} {s : Sh} (h : P.underlying t = some (.slice e)) (he : IsSh P e s) (hc : P.cellsOf e = s.size) (hp : 0 < s.size) : IsSh P t (.slice s)
  | struct {t : TypeId} {fs : Array Field} {s : Sh} (h : P.underlying t = some (.struct fs)) (hf : AreSh P fs.toList 0 s) (hc : P.cellsOf t = s.size) : IsSh P t s
  | array {t e : TypeId} {n : Nat} {s : Sh} (h : P.underlying t = some (.array n e)) (he : IsSh P e s) (hc : P.cellsOf e = s.size) (hn : P.cellsOf t = (s.rep n).size) : IsSh P t (s.rep n)
/-- the fields from a place on -/
inductive AreSh (P : Program) : List Field → Nat → Sh → Prop
  | nil {off : Nat} : AreSh P [] off .unit
  | cons {f : Field} {fs : List Field} {off : Nat} {a b : Sh} (ho : f.offset = off) (h : IsSh P f.type a) (hc : P.cellsOf f.type = a.size) (hr : AreSh P fs (off + a.size) b) : AreSh P (f :: fs) off (.two a b)
end

theorem rep_size (s : Sh) (n : Nat) : (s.rep n).size = n * s.size := by
  induction n with
  | zero => simp [Sh.rep, Sh.size]
  | succ n ih => simp only [Sh.rep, Sh.size, ih, Nat.succ_mul]; omega
theorem fits_rep {w : World} {s : Sh} : ∀ (n : Nat) (cs : List Value), cs.length = n * s.size → (∀ i, i < n → Fits w s ((cs.drop (i * s.size)).take s.size)) → Fits w (s.rep n) cs
  | 0, cs, hl, _ => List.eq_nil_of_length_eq_zero (by simpa using hl)
  | n + 1, cs, hl, h => by
    refine ⟨cs.take s.size, cs.drop s.size, (List.take_append_drop _ _).symm, by simpa using h 0 (by omega), fits_rep n _ ?_ fun i hi => ?_⟩
    · rw [List.length_drop, hl, Nat.succ_mul]; omega
    · have := h (i + 1) (by omega)
      rwa [Nat.succ_mul, Nat.add_comm, ← List.drop_drop] at this
section
variable {H : Type} {enc : TypeId × Value → H} {P : Program} {w : World} {base : Nat} {spare : Nat → Bool} {held : Bool}
theorem fits_of {t : TypeId} {s : Sh} (hs : IsSh P t s) : ∀ {fuel : Nat} {cs : List Value} {x : DataW H × List MemPlace}, DataW.trod enc P w base spare held fuel t cs = some x → Fits w s cs := by
  refine IsSh.rec (motive_1 := fun t s _ => ∀ {fuel : Nat} {cs : List Value} {x : DataW H × List MemPlace}, DataW.trod enc P w base spare held fuel t cs = some x → Fits w s cs)
    (motive_2 := fun fs off s _ => ∀ (cs : List Value) (n : Nat), cs.length = off + s.size → (∀ f ∈ fs, ∃ y, DataW.trod enc P w base spare held n f.type ((cs.drop f.offset).take (P.cellsOf f.type)) = some y) → Fits w s (cs.drop off)) ?_ ?_ ?_ ?_ ?_ ?_ ?_ ?_ hs
  · intro t k h fuel cs x hx
    obtain ⟨z, hz, _, hw⟩ := DataW.trod_int h hx
    exact ⟨z, hz, hw⟩
  · intro t h fuel cs x hx
    obtain ⟨b, hb, _⟩ := DataW.trod_bool h hx
    exact ⟨b, hb⟩
  · intro t h fuel cs x hx
    obtain ⟨s, h1, _, h2⟩ := DataW.trod_string h hx
    exact ⟨s, h1, h2⟩
  · intro t e s h he hc hp ih fuel cs x hx
    rcases open_slice h hx with ⟨rfl, _⟩ | ⟨a, len, cap, m, n, D, Pl, rfl, hb, hl, hm, hmm, _, hi⟩
    · exact ⟨none, 0, 0, rfl, Nat.le_refl _, Nat.zero_le _, .inl rfl⟩
    · refine ⟨some a, len, cap, rfl, hl, hm, ?_⟩
      rcases Nat.eq_zero_or_pos len with h0 | h0
      · exact .inl h0
      right
      have hle : len ≤ m := by rw [hmm]; split <;> omega
      rw [hc] at hi
      have hcell : ∀ i, i < len → ∃ ys, ys.length = s.size ∧ (∀ (j : Nat) u, ys[j]? = some u → w.cell? ((a.add (i * s.size)).add j) = some u) ∧ Fits w s ys := by
        intro i hil
        obtain ⟨ys, h1, h2⟩ := hi i (by omega)
        obtain ⟨_, h3, h4⟩ := World.cells?_some h1
        refine ⟨ys, h3, fun j u hj => ?_, ih h2⟩
        have hjl := (List.getElem?_eq_some_iff.1 hj).1
        rw [h4 j (by omega), hj]
      obtain ⟨b, off, spot⟩ := a
      obtain ⟨ys0, l0, c0, _⟩ := hcell 0 h0
      obtain ⟨u0, hu0⟩ : ∃ u, ys0[0]? = some u := ⟨_, List.getElem?_eq_getElem (by omega)⟩
      have q := c0 0 u0 hu0
      have hs : spot = none := by
        have := World.cell?_spot q
        simpa [Addr.add] using this
      subst hs
      have hbl : b < w.heap.size := by
        have := World.block_lt_of_cell? w _ q
        simpa [Addr.add] using this
      refine ⟨b, off, rfl, hbl, fun i hil => ?_⟩
      obtain ⟨ys, h1, h2, h3⟩ := hcell i hil
      refine ⟨ys, h1, fun j u hj => ?_, h3⟩
      have := h2 j u hj
      rwa [add_off, add_off] at this
  · intro t fs s h hf hc ih fuel cs x hx
    obtain ⟨xs, n, _, _, hl, hxl, hg⟩ := DataW.trod_struct h hx
    have := ih cs n (by rw [hl, hc, Nat.zero_add]) (fun f hf => by
      obtain ⟨i, hi, rfl⟩ := List.mem_iff_getElem.1 hf
      have := hg i fs[i] (by simp at hi; simp [hi])
      rw [List.getElem?_eq_getElem (by simp at hi; omega)] at this
      exact ⟨_, by simpa using this⟩)
    simpa using this
  · intro t e n s h he hc hn ih fuel cs x hx
    obtain ⟨xs, m, _, _, hl, hxl, hg⟩ := DataW.trod_array h hx
    refine fits_rep n cs (by rw [hl, hn, rep_size]) fun i hi => ?_
    have h1 := hg i hi
    rw [hc, List.getElem?_eq_getElem (by omega)] at h1
    exact ih h1
  · intro off cs n hl _
    exact List.drop_eq_nil_of_le (by simp [Sh.size] at hl; omega)
  · intro f fs off a b ho h hc hr iha ihb cs n hl hall
    obtain ⟨y, hy⟩ := hall f (by simp)
    rw [ho, hc] at hy
    have h2 := ihb cs n (by rw [hl]; simp only [Sh.size]; omega) (fun g hg => hall g (by simp [hg]))
    refine ⟨(cs.drop off).take a.size, cs.drop (off + a.size), ?_, iha hy, h2⟩
    rw [← List.drop_drop, List.take_append_drop]
theorem fits_arg {t : TypeId} {s : Sh} {v : Value} {d : DataW H} {p : List MemPlace} (hs : IsSh P t s) (h : DataW.Trod enc P w base spare held t v d p) : Fits w s v.cells.toList := by
  obtain ⟨fuel, hf⟩ := h
  exact fits_of hs hf
end
theorem fits_agg {P : Program} {w : World} {r : Reach} {b0 : Nat} {t : TypeId} {fs : Array Field} {v : Value} {s : Sh} (ht : P.underlying t = some (.struct fs)) (hv : Value.okWide P w r b0 t v) (h : Fits w s v.cells.toList) : ∃ cs, v = .agg cs ∧ Fits w s cs.toList := by
  obtain ⟨cs, rfl, _⟩ := Go.WideShapes.okWide_struct ht hv
  exact ⟨cs, rfl, h⟩
theorem fits_agga {P : Program} {w : World} {r : Reach} {b0 : Nat} {t e : TypeId} {n : Nat} {v : Value} {s : Sh} (ht : P.underlying t = some (.array n e)) (hv : Value.okWide P w r b0 t v) (h : Fits w s v.cells.toList) : ∃ cs, v = .agg cs ∧ Fits w s cs.toList := by
  simp only [Value.okWide, ht] at hv
  obtain ⟨cs, rfl, _⟩ := hv
  exact ⟨cs, rfl, h⟩
theorem fits_slice {P : Program} {w : World} {r : Reach} {b0 : Nat} {t e : TypeId} {v : Value} {s : Sh} (ht : P.underlying t = some (.slice e)) (hv : Value.okWide P w r b0 t v) (h : Fits w s v.cells.toList) : ∃ a len cap, v = .slice a len cap ∧ Fits w s [.slice a len cap] := by
  obtain ⟨a, len, cap, rfl⟩ := Go.WideShapes.okWide_slice ht hv
  exact ⟨a, len, cap, rfl, h⟩
/-- what a slice that came in is: its length, its room, and its elements -/
theorem Fits.slice {w : World} {a : Option Addr} {len cap : Nat} {s : Sh} (h : Fits w (.slice s) [.slice a len cap]) : len ≤ cap ∧ cap ≤ maxLen ∧ (len = 0 ∨ ∃ b off, a = some ⟨b, off, none⟩ ∧ b < w.heap.size ∧
      ∀ i, i < len → ∃ ys, ys.length = s.size ∧ (∀ (j : Nat) u, ys[j]? = some u → w.cell? ⟨b, off + i * s.size + j, none⟩ = some u) ∧ Fits w s ys) := by
  obtain ⟨a', len', cap', he, h1, h2, h3⟩ := h
  simp only [List.cons.injEq, and_true] at he
  injection he with e1 e2 e3
  subst e1 e2 e3
  exact ⟨h1, h2, h3⟩
end Go.Proofs.Ytfgmeeponipjeaa
/-
  Items there and back: what may be, and what is put (layer 8).
-/



namespace Go.Proofs.Ytfgmeeponipjeaa
open Go.RowKit
set_option linter.unusedVariables false
set_option linter.unusedSimpArgs false

theorem imay_bad (v : Int) (D : ByteArray) (w : World) (hn : D ≠ ⟨#[]⟩) (hs : D.size ≠ 32) : Calls Try.prog 50 #[.agg (itemA v D)] w fun e w' => e = .returned (.bool false) ∧ Below w.heap.size w w' := by
  unfold itemA
  have h1 := ba_empty hn
  have h1' : (D.toList == []) = false := by rw [beq_eq_false_iff_ne]; exact h1
  have h1e : (D.toList == (⟨#[]⟩ : ByteArray).toList) = false := ba_ne hn
  have h5 : ((D.size : Int) == 32) = false := by simpa using fun h : (D.size : Int) = 32 => hs (by omega)
  have h6 : ¬ (D.size : Int) = 32 := by omega
  go_enter Try.func50, Try.ntmps50
  go_upto_region 1 with fail
  go_quiet (fail)
  go_wp2_with fail
  go_ret
  exact ⟨rfl, below_drewN' (by go_grown) _⟩
set_option maxRecDepth 100000 in
theorem imay_zero (v : Int) (D : ByteArray) (w : World) (hs : D.size = 32) (hD : D = zeroL 32) : Calls Try.prog 50 #[.agg (itemA v D)] w fun e w' => e = .returned (.bool false) ∧ Below w.heap.size w w' := by
  unfold itemA
  have hn : D ≠ ⟨#[]⟩ := fun h => by rw [h] at hs; cases hs
  have h1 := ba_empty hn
  have h1' : (D.toList == []) = false := by rw [beq_eq_false_iff_ne]; exact h1
  have h1e : (D.toList == (⟨#[]⟩ : ByteArray).toList) = false := ba_ne hn
  have h2 : (D.toList == (zeroL 32).toList) = true := by rw [hD]; simp
  have cz := fun w => inoughts w
  rw [← hD] at h2 cz
  clear hD
  obtain ⟨Z, hZ⟩ : ∃ Z, D = Z := ⟨_, rfl⟩
  subst hZ
  have h4 : (D.size : Int) = 32 := by omega
  have h5 : ((D.size : Int) == 32) = true := by simp [hs]
  have hb0 : Below w.heap.size w (w.alloc (.cells #[.int .u64 v, .string D] 54)) := (Below.refl _ _).alloc (Nat.le_refl _) _
  have hx := heap_alloc_self w (.cells #[.int .u64 v, .string D] 54)
  have hz : (w.alloc (.cells #[.int .u64 v, .string D] 54)).heap.size = w.heap.size + 1 := by simp
  go_enter Try.func50, Try.ntmps50
  go_upto_region 1 with fail
  generalize w.alloc (.cells #[.int .u64 v, .string D] 54) = w1 at *
  have k1 : w1.cell? ⟨w.heap.size, 1, none⟩ = some (.string D) := by simp [World.cell?, hx]
  obtain ⟨N, hN⟩ : ∃ N, w1.heap.size = N := ⟨_, rfl⟩
  have HN := Lib.hid hN
  have HB := Lib.hid hb0
  have hlt : w.heap.size < N := by omega
  have cs : ∀ w', N ≤ w'.heap.size → Calls Try.prog 75 #[] w' fun x w'' => x = .returned (.string D) ∧ Stays N w' w'' := fun w' h => (cz w').mono fun e w'' ⟨he, hw⟩ => ⟨he, stays_of h hw⟩
  clear hx hz hN hb0 cz
  go_region_held3 (fun w' => N ≤ w'.heap.size ∧ Below N w1 w' ∧ ∀ b o, b < N → w'.cell? ⟨b, o, none⟩ = w1.cell? ⟨b, o, none⟩) (first | assumption | exact keeps_start HN.out | exact keeps_next (by assumption) (by assumption)) (first | (go_at_call 75; refine Calls.mono (cs _ (And.left (by assumption))) ?_; rintro e wz ⟨rfl, hz⟩))
  rename_i hfin
  have FIN := Lib.hid hfin.2.1
  clear hfin
  go_wp2_with fail
  go_ret
  exact ⟨rfl, HB.out.trans (FIN.out.mono (Nat.le_of_lt hlt))⟩
end Go.Proofs.Ytfgmeeponipjeaa
