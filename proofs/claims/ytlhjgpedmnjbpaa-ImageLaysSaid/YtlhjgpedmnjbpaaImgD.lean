/-
  image.Pack's closure: what is no run is told, if there is any.
-/
import Derived.Test.YtlhjgpedmnjbpaaImgC
namespace Go.Proofs.Ytlhjgpedmnjbpaa
open Go.RowKit
set_option linter.unusedVariables false
set_option linter.unusedSimpArgs false

/-- the bytes that are no run, ahead of a place -/
def plainL (l : List UInt8) (a o : Nat) : List UInt8 := (l.take a).drop (a - o)
theorem plainL_len (l : List UInt8) (a o : Nat) (ho : o ≤ a) (ha : a ≤ l.length) : (plainL l a o).length = o := by
  unfold plainL
  rw [List.length_drop, List.length_take]
  omega
theorem plainL_zero (l : List UInt8) (a : Nat) : plainL l a 0 = [] := by
  unfold plainL
  exact List.drop_eq_nil_of_le (by rw [List.length_take]; omega)
theorem plainL_str (s : ByteArray) (a o : Nat) (ho : o ≤ a) : (s.extract (a - o) a).data.toList = plainL s.data.toList a o := by
  rw [Lib.extract_data, plainL, List.drop_take]
/-- what the closure needs: the place of the bytes, how many are no run, the builder -/
structure PackAt (B b q n : Nat) (s : ByteArray) (o : Nat) (out : List UInt8) (w : World) : Prop where
  bt : BT B b out w
  oc : w.heap[q]? = some (.cells #[.int .i64 o] 3 (0, 0))
  sc : w.heap[n]? = some (.cells #[.string s] 9 (0, 0))
  qb : q ≠ b
  nb : n ≠ b
  nq : n ≠ q
  Bq : B ≤ q
  size : B ≤ w.heap.size
theorem PackAt.kept {B b q n : Nat} {s : ByteArray} {o : Nat} {out out' : List UInt8} {w w' : World} (h : PackAt B b q n s o out w) (k : BKept B b w w') (h' : BT B b out' w') : PackAt B b q n s o out' w' :=
  ⟨h', k.keep _ _ _ _ h.oc (by decide) h.qb, k.keep _ _ _ _ h.sc (by decide) h.nb, h.qb, h.nb, h.nq, h.Bq, Nat.le_trans h.size k.below.size⟩
theorem BT.below {B b : Nat} {l : List UInt8} {w w' : World} (h : BT B b l w) (hb : Below w.heap.size w w') : BT B b l w' := by
  rcases h with h | h
  · obtain ⟨h1, v, h2, h3, h4⟩ := h
    exact .inl ⟨h1, v, below_at hb (lt_heap h2) h2, owns_below h3 hb, h4⟩
  · obtain ⟨h1, v, h2, h3, h4⟩ := h
    exact .inr ⟨h1, v, below_at hb (lt_heap h2) h2, owns_below h3 hb, h4⟩
theorem BT.set {B b : Nat} {l : List UInt8} {w : World} (h : BT B b l w) {q : Nat} {c : Array Value} {t : TypeId} {fr : Nat × Nat} (hq : w.heap[q]? = some (.cells c t fr)) (ht : t ≠ 5) (hb : q ≠ b) (u : Value) : BT B b l (w.setCell ⟨q, 0, none⟩ u) := by
  have key : ∀ p, Lib.BuilderAt 175 5 B b p (bCells l) w → Lib.BuilderAt 175 5 B b p (bCells l) (w.setCell ⟨q, 0, none⟩ u) := by
    rintro p ⟨h1, v, h2, h3, h4⟩
    refine ⟨h1, v, by rw [Below.heap_setCell _ _ _ _ (fun e => hb e.symm)]; exact h2, ?_, h4⟩
    refine h3.kept (⟨rfl, rfl, rfl, by simp [World.setCell], fun k hk hn => ?_⟩ : w.grownBy (w.setCell ⟨q, 0, none⟩ u) (some q)) ?_
    · exact Below.heap_setCell _ _ _ _ (fun e => hn (by rw [e]))
    · cases hv : v.ownBlock with
      | none => exact .inl rfl
      | some k =>
        right
        intro he
        cases he
        obtain ⟨cur, hc⟩ := own_typeI h3 hv
        rw [hq] at hc
        cases hc
        exact ht rfl
  rcases h with h | h
  · exact .inl (key _ h)
  · exact .inr (key _ h)
theorem PackAt.set {B b q n : Nat} {s : ByteArray} {o : Nat} {out : List UInt8} {w : World} (h : PackAt B b q n s o out w) (o' : Nat) : PackAt B b q n s o' out (w.setCell ⟨q, 0, none⟩ (.int .i64 o')) :=
  ⟨h.bt.set h.oc (by decide) h.qb _, by simpa using heap_set_self h.oc 0 (.int .i64 o'), by rw [Below.heap_setCell _ _ _ _ h.nq]; exact h.sc, h.qb, h.nb, h.nq, h.Bq, by simpa [World.setCell] using h.size⟩
theorem put_nat (n : Nat) (w : World) (hn : n ≤ 1073741824) : Calls Try.prog 113 #[.int .u64 n] w fun e w' => e = .returned (.string ⟨(putN n).toArray⟩) ∧ Below w.heap.size w w' := by
  have := put_any (n : Int) w ⟨by omega, by omega⟩
  simpa using this
set_option maxHeartbeats 1600000 in
set_option maxRecDepth 100000 in
theorem pflush (B b q n : Nat) (s : ByteArray) (a o : Nat) (out : List UInt8) (w : World) (h : PackAt B b q n s o out w) (ho : o ≤ a) (ha : a ≤ s.size) (hs : s.size ≤ 16777216) (hl : out.length ≤ 1073741824) :
    Calls Try.prog 111 #[.int .i64 a, .pointer (some ⟨q, 0, none⟩), .pointer (some ⟨b, 0, none⟩), .pointer (some ⟨n, 0, none⟩)] w fun e w' => e = .returned (.tuple #[]) ∧ PackAt B b q n s 0 (out ++ flushL (plainL s.data.toList a o)) w' ∧ Below B w w' := by
  have H := Lib.hid h
  have co : w.cell? ⟨q, 0, none⟩ = some (.int .i64 o) := by simp [World.cell?, h.oc]
  clear h
  by_cases h0 : o = 0
  · subst h0
    have e0 : out ++ flushL (plainL s.data.toList a 0) = out := by rw [plainL_zero]; simp [flushL]
    rw [e0]
    clear e0
    go_enter Try.func111, Try.ntmps111
    go_wp2_with fail
    go_returns
    exact ⟨rfl, H.out, Below.refl _ _⟩
  · have hp : (plainL s.data.toList a o).length = o := plainL_len _ _ _ ho (by rw [Array.length_toList]; exact ha)
    have e0 : flushL (plainL s.data.toList a o) = putN (2 * o) ++ plainL s.data.toList a o := by
      unfold flushL
      rw [if_neg (fun e => by rw [e] at hp; simp at hp; omega), hp]
    rw [e0, ← List.append_assoc]
    have hpl := putN_length (2 * o) (by omega)
    obtain ⟨m, hm⟩ : ∃ m, a - o = m := ⟨_, rfl⟩
    have hx := plainL_str s a o ho
    rw [hm] at hx
    have HX := Lib.hid hx
    have hx2 : (s.extract m a).size = o := by
      have : (s.extract m a).data.toList.length = o := by rw [hx, hp]
      rw [← this]
      exact (Array.length_toList).symm
    have HX2 := Lib.hid hx2
    have hmi : (a : Int) - (o : Int) = (m : Int) := by omega
    have hma : (m : Int) ≤ (a : Int) := by omega
    have hpos : (0 : Int) < (o : Int) := by omega
    have hcw : (2 : Int) * (o : Int) = ((2 * o : Nat) : Int) := by omega
    obtain ⟨o2, ho2⟩ : ∃ o2, 2 * o = o2 := ⟨_, rfl⟩
    rw [ho2] at hcw hpl
    rw [ho2]
    have ho2l : o2 ≤ 33554432 := by omega
    have ho3 : (o2 : Int) ≤ 33554432 := by omega
    clear hx hx2 e0 hp hm ho2
    go_enter Try.func111, Try.ntmps111
    go_wp2_with fail
    refine Calls.mono (put_nat o2 _ (by omega)) ?_
    rintro e w1 ⟨rfl, hb1⟩
    have HP1 := Lib.hid (H.out.kept (BKept.of_below hb1 H.out.size) (H.out.bt.below hb1))
    have HB1 := Lib.hid (hb1.mono H.out.size)
    clear hb1
    go_wp2_with fail
    refine Calls.mono (bwriteK B b out _ w1 HP1.out.bt (by simp [ByteArray.size]; omega) HP1.out.size) ?_
    rintro e w2 ⟨rfl, hbt2, hk2⟩
    have HP2 := Lib.hid (HP1.out.kept hk2 hbt2)
    have HB2 := Lib.hid (HB1.out.trans hk2.below)
    have c2 : w2.cell? ⟨q, 0, none⟩ = some (.int .i64 o) := by simp [World.cell?, HP2.out.oc]
    have s2 : w2.cell? ⟨n, 0, none⟩ = some (.string s) := by simp [World.cell?, HP2.out.sc]
    clear hbt2 hk2 co
    go_wp2_with fail
    refine Calls.mono (bwriteK B b _ (s.extract m a) w2 HP2.out.bt (by rw [HX2.out]; simp; omega) HP2.out.size) ?_
    rintro e w3 ⟨rfl, hbt3, hk3⟩
    rw [HX.out] at hbt3
    have HP3 := Lib.hid (HP2.out.kept hk3 hbt3)
    have HB3 := Lib.hid (HB2.out.trans hk3.below)
    have c3 : w3.cell? ⟨q, 0, none⟩ = some (.int .i64 o) := by simp [World.cell?, HP3.out.oc]
    have f3 : w3.frozen? ⟨q, 0, none⟩ = false := by simp [World.frozen?, HP3.out.oc]
    clear hbt3 hk3 c2 s2
    go_wp2_with fail
    go_returns
    exact ⟨rfl, HP3.out.set 0, HB3.out.setCell (p := ⟨q, 0, none⟩) HP3.out.Bq _⟩
end Go.Proofs.Ytlhjgpedmnjbpaa
