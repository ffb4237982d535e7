/-
  Several texts, laid together.
-/
import Derived.Test.YtgnnijpfkgmomaaGreatDoorBase
import Derived.Maps.AppendAt
import Derived.Laws.OwnMore
import Derived.OwnWalk
import Derived.RegionTactic
/-
  Slices that read as lists of cells (a slice that came in, or one of the call's own), and append onto a row of the call's own, whatever its source is. Of no program.
-/





namespace Go.Proofs.YtgnnijpfkgmomaaGreatDoor
open Go.RowKit
set_option linter.unusedVariables false
set_option linter.unusedSimpArgs false

/-- the slice v has n elements of so many cells each, which are xs -/
def SR (w : World) (v : Value) (size n : Nat) (xs : List Value) : Prop :=
  ∃ a cap, v = .slice a n cap ∧ n ≤ cap ∧ cap ≤ maxLen ∧ xs.length = n * size ∧
    (n = 0 ∨ ∃ b off, a = some ⟨b, off, none⟩ ∧ b < w.heap.size ∧ ∀ (j : Nat) u, xs[j]? = some u → w.cell? ⟨b, off + j, none⟩ = some u)

theorem SR.below {w w' : World} {v : Value} {size n : Nat} {xs : List Value} (h : SR w v size n xs) (hb : Below w.heap.size w w') : SR w' v size n xs := by
  obtain ⟨a, cap, rfl, h1, h2, h3, h4⟩ := h
  refine ⟨a, cap, rfl, h1, h2, h3, h4.imp id ?_⟩
  rintro ⟨b, off, rfl, hlt, hc⟩
  exact ⟨b, off, rfl, Nat.lt_of_lt_of_le hlt hb.size, fun j u hj => (hb.cell (p := ⟨b, off + j, none⟩) hlt).trans (hc j u hj)⟩
theorem SR.nil_ (w : World) (size : Nat) : SR w (.slice none 0 0) size 0 [] := ⟨none, 0, rfl, Nat.le_refl _, Nat.zero_le _, by simp, .inl rfl⟩
theorem add_off (b off j : Nat) : (⟨b, off, none⟩ : Addr).add j = ⟨b, off + j, none⟩ := by unfold Addr.add; split <;> simp_all
theorem SR.owns {w : World} {base : Nat} {e : TypeId} {size n : Nat} {v : Value} {xs : List Value} (h : w.ownsRow base e size v n xs) : SR w v size n xs := by
  have h1 := h.1
  have hc := fun g => h.cells (g := g)
  rcases h.2 with ⟨rfl, rfl⟩ | ⟨g, cap, cur, rfl, hb, hg, hnc, hcm, hcs, ht⟩
  · exact ⟨none, 0, rfl, Nat.le_refl _, Nat.zero_le _, h1, .inl rfl⟩
  · refine ⟨some ⟨g, 0, none⟩, cap, rfl, hnc, hcm, h1, .inr ⟨g, 0, rfl, lt_heap hg, fun j u hj => ?_⟩⟩
    rw [← add_off]
    exact hc g rfl j u hj
/-- a literal of cells that was laid just now -/
theorem SR.lit (w : World) (e : TypeId) (cs : Array Value) (size n : Nat) (hm : n ≤ maxLen) (hs : cs.size = n * size) : SR (w.alloc (.cells cs e)) (.slice (some ⟨w.heap.size, 0, none⟩) n n) size n cs.toList :=
  SR.owns (World.ownsRow_lit (base := w.heap.size) w cs n (Nat.le_refl _) hm hs)
/-- the first k elements -/
theorem SR.front {w : World} {a : Option Addr} {len cap size : Nat} {xs : List Value} (h : SR w (.slice a len cap) size len xs) (k : Nat) (hk : k ≤ len) : SR w (.slice a k cap) size k (xs.take (k * size)) := by
  obtain ⟨a', cap', he, h1, h2, h3, h4⟩ := h
  injection he with e1 _ e2
  subst e1 e2
  refine ⟨a, cap, rfl, by omega, h2, ?_, ?_⟩
  · rw [List.length_take, h3]
    exact Nat.min_eq_left (Nat.mul_le_mul_right _ hk)
  · rcases h4 with h4 | ⟨b, off, rfl, hb, hc⟩
    · exact .inl (by omega)
    · refine .inr ⟨b, off, rfl, hb, fun j u hj => hc j u ?_⟩
      rw [List.getElem?_take] at hj
      split at hj
      · exact hj
      · cases hj

section
variable {P : Program}
theorem run_app {t ty e : TypeId} {i : TypeInfo} {z : Value} {size bytes : Nat} (ht : P.underlying t = some (.slice e)) (hi : P.info? e = some i) (hz : i.zero = some z) (hsize : i.size = size) (hby : i.bytes = bytes)
    (hzs : z.cells.size = size) (hsz : 0 < size) (w : World) (base : Nat) (v : Value) (n : Nat) (xs : List Value) (hown : w.ownsRow base e size v n xs) (u : Value) (m : Nat) (news : List Value) (hr : SR w u size m news)
    (h1 : ∀ y ∈ news, y.oneCell' = true) (h63 : n + m ≤ maxLen) (hbytes : (n + m) * bytes ≤ 140737488355328) (hbase : base ≤ w.heap.size) :
    ∃ v' w', (Builtin.append_ #[t, t] ty #[v, u]).run P w = .ok v' w' ∧ w'.ownsRow base e size v' (n + m) (xs ++ news) ∧ w.grownBy w' v.ownBlock := by
  obtain ⟨a, cap, rfl, hmc, hcm, hl, hc⟩ := hr
  have hcells : ∀ ad, a = some ad → ∀ (j : Nat) y, news[j]? = some y → w.cell? (ad.add j) = some y := by
    intro ad e1 j y hj
    rcases hc with h0 | ⟨b, off, e2, _, hcell⟩
    · subst h0
      have : news = [] := List.eq_nil_of_length_eq_zero (by omega)
      subst this
      simp at hj
    · rw [e1] at e2
      cases e2
      rw [add_off]
      exact hcell j y hj
  rcases a with _ | ad
  · have h0 : m = 0 := by
      rcases hc with h0 | ⟨_, _, e2, _⟩
      · exact h0
      · cases e2
    subst h0
    have : news = [] := List.eq_nil_of_length_eq_zero (by omega)
    subst this
    refine ⟨v, w, ?_, by simpa using hown, World.grownBy.refl w _⟩
    rcases hown.2 with ⟨rfl, rfl⟩ | ⟨g, cp, cur, rfl, _, _, hnc, _⟩
    · simp [Builtin.append_, run_underlying ht, sizeOf, typeInfo, hi, Builtin.lenOf, Builtin.firstCells]
    · simp [Builtin.append_, run_underlying ht, sizeOf, typeInfo, hi, Builtin.lenOf, Builtin.firstCells, hnc, storeCells]
  · obtain ⟨v', w', hrun, h2, h3, _, _⟩ := run_append_own_at (P := P) w base t ty e i z size bytes ht hi hz hsize hby hzs hsz v n xs hown ad m cap news hl (hcells ad rfl) h1 h63 hbytes hbase
    exact ⟨v', w', hrun, h2, h3⟩
theorem wp_app {t e : TypeId} {i : TypeInfo} {z : Value} {size bytes : Nat} (ht : P.underlying t = some (.slice e)) (hi : P.info? e = some i) (hz : i.zero = some z) (hsize : i.size = size) (hby : i.bytes = bytes)
    (hzs : z.cells.size = size) (hsz : 0 < size) {ops : Array Oper} {rest : List Oper} {o : Oper} {a : Act} {Q : Exit → Act → World → Prop} {w : World} (hgd : o.guard = none) (s x : Operand)
    (ho : o.op = .call { callee := .builtin .append, args := #[s, x], argTypes := #[t, t] }) (base : Nat) (v : Value) (n : Nat) (xs : List Value) (hs : a.eval s = v) (hown : w.ownsRow base e size v n xs)
    (u : Value) (m : Nat) (news : List Value) (hx : a.eval x = u) (hr : SR w u size m news)
    (h1 : ∀ y ∈ news, y.oneCell' = true) (h63 : n + m ≤ maxLen) (hbytes : (n + m) * bytes ≤ 140737488355328) (hbase : base ≤ w.heap.size)
    (h : ∀ v' w', w'.ownsRow base e size v' (n + m) (xs ++ news) → w.grownBy w' v.ownBlock → wpList P ops Q rest (a.put o.dst v') w') : wpList P ops Q (o :: rest) a w := by
  refine wpList_plain hgd fun K hK => ?_
  obtain ⟨v', w', hrun, h2, h3⟩ := run_app (P := P) (ty := o.type) ht hi hz hsize hby hzs hsz w base v n xs hown u m news hr h1 h63 hbytes hbase
  unfold Oper.wp execOp
  simp only [ho, resolve, invoke, builtin, Sem.run_bind, Sem.run_pure, Result.andThen_ok, List.map_toArray, List.map_cons, List.map_nil, hs, hx, hrun]
  exact hK _ _ (h v' w' h2 h3)
end
/-- what append leaves of the world -/
theorem below_app {B base : Nat} {w0 w w' : World} {e : TypeId} {size n : Nat} {v : Value} {xs : List Value} (hb : Below B w0 w) (hg : w.grownBy w' v.ownBlock) (hown : w.ownsRow base e size v n xs) (hB : B ≤ base) (hs : B ≤ w.heap.size) : Below B w0 w' :=
  hb.grown hg hs (fun q hq => Nat.le_trans hB (hown.lt q hq).1)
theorem owns_below {w w' : World} {base n size : Nat} {e : TypeId} {v : Value} {xs : List Value} (h : w.ownsRow base e size v n xs) (hb : Below w.heap.size w w') : w'.ownsRow base e size v n xs := by
  refine h.kept (row := none) ⟨hb.os, hb.tape, hb.output, hb.size, fun k hk _ => hb.block k hk⟩ ?_
  cases v.ownBlock with
  | none => exact .inl rfl
  | some k => exact .inr (by simp)
theorem below_trans {a b c : World} {B : Nat} (h : Below B a b) (k : Below b.heap.size b c) (hB : B ≤ b.heap.size) : Below B a c := h.trans (k.mono hB)
theorem below_of_drew {B : Nat} {x y : World} (h : Below B x.drew y) : Below B x y := ⟨h.os, h.tape, h.output, h.size, h.block⟩
theorem below_drew' {B : Nat} {x y : World} (h : Below B x y) : Below B x y.drew := ⟨h.os, h.tape, h.output, h.size, h.block⟩
/-- cells of ints -/
def nCells (l : List Int) : List Value := l.map (Value.int .i64)
theorem nCells_length (l : List Int) : (nCells l).length = l.length := by simp [nCells]
theorem nCells_append (a b : List Int) : nCells a ++ nCells b = nCells (a ++ b) := by simp [nCells]
theorem nCells_one (l : List Int) : ∀ y ∈ nCells l, y.oneCell' = true := by
  intro y hy
  simp only [nCells, List.mem_map] at hy
  obtain ⟨x, _, rfl⟩ := hy
  rfl
theorem nCells_take (l : List Int) (k : Nat) : (nCells l).take (k * 1) = nCells (l.take k) := by simp [nCells, List.map_take]
/-- a slice of integers that came in -/
theorem SR.row {w : World} {a : Option Addr} {len cap : Nat} {zs : List Int} (h : RowOf .i64 w a len cap zs) : SR w (.slice a len cap) 1 len (nCells (zs.take len)) ∧ (zs.take len).length = len := by
  rcases h with ⟨rfl, rfl, rfl, rfl⟩ | ⟨⟨b, off, spot⟩, rfl, hl, hm, hz, hc, hw⟩
  · exact ⟨SR.nil_ w 1, rfl⟩
  · have hlen : (zs.take len).length = len := by rw [List.length_take]; omega
    refine ⟨⟨_, cap, rfl, hl, hm, by rw [nCells_length, hlen, Nat.mul_one], ?_⟩, hlen⟩
    rcases Nat.eq_zero_or_pos len with h0 | h0
    · exact .inl h0
    · right
      have c0 := hc 0 (by omega)
      have hs : spot = none := by
        have := World.cell?_spot c0
        simpa [Addr.add] using this
      subst hs
      have hb : b < w.heap.size := by
        have := World.block_lt_of_cell? w _ c0
        simpa [Addr.add] using this
      refine ⟨b, off, rfl, hb, fun j u hj => ?_⟩
      have hjl : j < len := by
        have := (List.getElem?_eq_some_iff.1 hj).1
        rw [nCells_length, hlen] at this
        exact this
      have hcj := hc j (by omega)
      rw [add_off] at hcj
      rw [hcj, ← hj]
      simp [nCells, List.getElem?_take, hjl, List.getD, show j < zs.length by omega]
/-- the cell of an integer -/
theorem SR.int {w : World} {a : Option Addr} {len cap : Nat} {l : List Int} (h : SR w (.slice a len cap) 1 len (nCells l)) (h0 : 0 < len) :
    ∃ b off, a = some ⟨b, off, none⟩ ∧ b < w.heap.size ∧ ∀ j, j < len → w.cell? ⟨b, off + j, none⟩ = some (.int .i64 (l.getD j 0)) := by
  obtain ⟨a', cap', he, h1, h2, h3, h4⟩ := h
  injection he with e1 _ e2
  subst e1 e2
  rcases h4 with h4 | ⟨b, off, rfl, hb, hc⟩
  · omega
  · refine ⟨b, off, rfl, hb, fun j hj => hc j _ ?_⟩
    have : j < l.length := by rw [nCells_length] at h3; omega
    simp [nCells, List.getD, this]
theorem SR.form {w : World} {v : Value} {size n : Nat} {xs : List Value} (h : SR w v size n xs) : ∃ a cap, v = .slice a n cap ∧ n ≤ cap ∧ cap ≤ maxLen := by
  obtain ⟨a, cap, e, h1, h2, _⟩ := h
  exact ⟨a, cap, e, h1, h2⟩
end Go.Proofs.YtgnnijpfkgmomaaGreatDoor
/-
  Pairs by their keys, in order: what lets a key have a value, or none (pure). Of no program but for the names.
-/

namespace Go.Proofs.YtgnnijpfkgmomaaGreatDoor
open Go.RowKit
set_option linter.unusedVariables false
set_option linter.unusedSimpArgs false

def ltK (a b : ByteArray) : Bool := Op.bytesLess a.toList b.toList
theorem ltL_irr : ∀ l : List UInt8, Op.bytesLess l l = false
  | [] => rfl
  | a :: l => by
    rw [Op.bytesLess, ltL_irr l]
    simp
theorem ltL_trans : ∀ a b c : List UInt8, Op.bytesLess a b = true → Op.bytesLess b c = true → Op.bytesLess a c = true
  | _, _, [], _, h => by cases ‹List UInt8› <;> simp [Op.bytesLess] at h
  | _, [], _ :: _, h, _ => by cases ‹List UInt8› <;> simp [Op.bytesLess] at h
  | [], _ :: _, _ :: _, _, _ => rfl
  | a :: x, b :: y, c :: z, h1, h2 => by
    simp only [Op.bytesLess, Bool.or_eq_true, decide_eq_true_eq, Bool.and_eq_true, beq_iff_eq] at h1 h2 ⊢
    rcases h1 with h1 | ⟨rfl, h1⟩
    · rcases h2 with h2 | ⟨rfl, h2⟩
      · exact .inl (UInt8.lt_trans h1 h2)
      · exact .inl h1
    · rcases h2 with h2 | ⟨rfl, h2⟩
      · exact .inl h2
      · exact .inr ⟨rfl, ltL_trans x y z h1 h2⟩
theorem ltL_tri : ∀ a b : List UInt8, Op.bytesLess a b = true ∨ a = b ∨ Op.bytesLess b a = true
  | [], [] => .inr (.inl rfl)
  | [], _ :: _ => .inl rfl
  | _ :: _, [] => .inr (.inr rfl)
  | a :: x, b :: y => by
    simp only [Op.bytesLess, Bool.or_eq_true, decide_eq_true_eq, Bool.and_eq_true, beq_iff_eq]
    rcases (show a < b ∨ a = b ∨ b < a from by
      rcases Nat.lt_trichotomy a.toNat b.toNat with h | h | h
      · exact .inl (UInt8.lt_iff_toNat_lt.2 h)
      · exact .inr (.inl (UInt8.toNat_inj.1 h))
      · exact .inr (.inr (UInt8.lt_iff_toNat_lt.2 h))) with h | rfl | h
    · exact .inl (.inl h)
    · rcases ltL_tri x y with h | rfl | h
      · exact .inl (.inr ⟨rfl, h⟩)
      · exact .inr (.inl rfl)
      · exact .inr (.inr (.inr ⟨rfl, h⟩))
    · exact .inr (.inr (.inl h))
theorem toL_inj {a b : ByteArray} (h : a.toList = b.toList) : a = b := by
  rw [ByteArray.toList_eq, ByteArray.toList_eq] at h
  cases a with
  | mk a => cases b with
    | mk b => simp at h; rw [h]
theorem ltK_irr (a : ByteArray) : ltK a a = false := ltL_irr _
theorem ltK_trans {a b c : ByteArray} (h1 : ltK a b = true) (h2 : ltK b c = true) : ltK a c = true := ltL_trans _ _ _ h1 h2
theorem ltK_tri (a b : ByteArray) : ltK a b = true ∨ a = b ∨ ltK b a = true := by
  rcases ltL_tri a.toList b.toList with h | h | h
  · exact .inl h
  · exact .inr (.inl (toL_inj h))
  · exact .inr (.inr h)
/-- a key, and its value -/
structure JP where
  k : ByteArray
  v : ByteArray
def JP.c (p : JP) : List Value := [.string p.k, .string p.v]
/-- by their keys, no key twice -/
def Srt (l : List JP) : Prop := l.Pairwise fun a b => ltK a.k b.k = true
/-- those ahead of a key, and those behind it -/
def ahK (l : List JP) (k : ByteArray) : List JP := l.filter fun p => ltK p.k k
def beK (l : List JP) (k : ByteArray) : List JP := l.filter fun p => ltK k p.k
def setK (l : List JP) (k v : ByteArray) : List JP := ahK l k ++ ⟨k, v⟩ :: beK l k
def cutK (l : List JP) (k : ByteArray) : List JP := ahK l k ++ beK l k
theorem srt_set {l : List JP} (h : Srt l) (k v : ByteArray) : Srt (setK l k v) := by
  refine List.pairwise_append.2 ⟨h.filter _, List.pairwise_cons.2 ⟨fun p hp => (List.mem_filter.1 hp).2, h.filter _⟩, fun a ha b hb => ?_⟩
  have h1 := (List.mem_filter.1 ha).2
  rcases List.mem_cons.1 hb with rfl | hb
  · exact h1
  · exact ltK_trans h1 (List.mem_filter.1 hb).2
theorem srt_cut {l : List JP} (h : Srt l) (k : ByteArray) : Srt (cutK l k) := by
  refine List.pairwise_append.2 ⟨h.filter _, h.filter _, fun a ha b hb => ltK_trans (List.mem_filter.1 ha).2 (List.mem_filter.1 hb).2⟩
/-- where a key stands, or would stand -/
def ixK (l : List JP) (k : ByteArray) : Nat := (ahK l k).length
theorem ix_le (l : List JP) (k : ByteArray) : ixK l k ≤ l.length := List.length_filter_le _ _
/-- a list by its keys is what lies ahead, the key's own, and what lies behind -/
theorem srt_split : ∀ {l : List JP} (h : Srt l) (k : ByteArray), (l = ahK l k ++ beK l k ∧ ∀ p ∈ l, p.k ≠ k) ∨ ∃ v, l = ahK l k ++ ⟨k, v⟩ :: beK l k
  | [], _, k => .inl ⟨rfl, fun p hp => by cases hp⟩
  | p :: l, h, k => by
    obtain ⟨h1, h2⟩ := List.pairwise_cons.1 h
    rcases ltK_tri p.k k with q | q | q
    · have hn : ltK k p.k = false := by
        cases hh : ltK k p.k
        · rfl
        · have := ltK_trans q hh; rw [ltK_irr] at this; cases this
      have ea : ahK (p :: l) k = p :: ahK l k := by unfold ahK; rw [List.filter_cons, if_pos q]
      have eb : beK (p :: l) k = beK l k := by unfold beK; rw [List.filter_cons, if_neg (by simp [hn])]
      rw [ea, eb]
      rcases srt_split h2 k with ⟨g1, g2⟩ | ⟨v, g⟩
      · refine .inl ⟨by rw [List.cons_append, ← g1], fun x hx => ?_⟩
        rcases List.mem_cons.1 hx with rfl | hx
        · intro e; rw [e, ltK_irr] at q; cases q
        · exact g2 x hx
      · exact .inr ⟨v, by rw [List.cons_append, ← g]⟩
    · have hall : ∀ x ∈ l, ltK k x.k = true := fun x hx => by rw [← q]; exact h1 x hx
      have ea : ahK (p :: l) k = [] := by
        unfold ahK
        rw [List.filter_eq_nil_iff]
        intro x hx hc
        rcases List.mem_cons.1 hx with rfl | hx
        · rw [q, ltK_irr] at hc; cases hc
        · have := ltK_trans (hall x hx) hc; rw [ltK_irr] at this; cases this
      have eb : beK (p :: l) k = l := by
        unfold beK
        rw [List.filter_cons, if_neg (by rw [q, ltK_irr]; simp), List.filter_eq_self.2 hall]
      rw [ea, eb]
      refine .inr ⟨p.v, ?_⟩
      rw [List.nil_append, ← q]
    · have hall : ∀ x ∈ p :: l, ltK k x.k = true := fun x hx => by
        rcases List.mem_cons.1 hx with rfl | hx
        · exact q
        · exact ltK_trans q (h1 x hx)
      have ea : ahK (p :: l) k = [] := by
        unfold ahK
        rw [List.filter_eq_nil_iff]
        intro x hx hc
        have := ltK_trans (hall x hx) hc; rw [ltK_irr] at this; cases this
      have eb : beK (p :: l) k = p :: l := by unfold beK; rw [List.filter_eq_self.2 hall]
      rw [ea, eb]
      refine .inl ⟨rfl, fun x hx e => ?_⟩
      have := hall x hx
      rw [e, ltK_irr] at this
      cases this
/-- the same, by a place: what slices.Insert and slices.Delete do there -/
theorem srt_place {l : List JP} (h : Srt l) (k : ByteArray) : l.take (ixK l k) = ahK l k ∧ ((l.drop (ixK l k) = beK l k ∧ (∀ p ∈ l, p.k ≠ k)) ∨ ∃ v, l[ixK l k]? = some ⟨k, v⟩ ∧ l.drop (ixK l k + 1) = beK l k) := by
  unfold ixK
  have key := srt_split h k
  generalize ahK l k = A at *
  generalize beK l k = B at *
  rcases key with ⟨rfl, g2⟩ | ⟨v, rfl⟩
  · exact ⟨List.take_left, .inl ⟨List.drop_left, g2⟩⟩
  · refine ⟨List.take_left, .inr ⟨v, ?_, ?_⟩⟩
    · rw [List.getElem?_append_right (Nat.le_refl _), Nat.sub_self]
      rfl
    · rw [List.drop_append, List.drop_eq_nil_of_le (by omega), Nat.add_sub_cancel_left]
      rfl
/-- what tarnlaw07.with makes, from its left end -/
def wthK (k v : ByteArray) : Bool → List JP → List JP
  | dn, [] => if dn then [] else [⟨k, v⟩]
  | dn, p :: l =>
    let pre := if dn = false ∧ ltK p.k k = false then [⟨k, v⟩] else []
    let dn' := dn || !ltK p.k k
    pre ++ (if p.k = k then [] else [p]) ++ wthK k v dn' l
theorem wth_done {k v : ByteArray} : ∀ {l : List JP}, (∀ p ∈ l, ltK k p.k = true) → wthK k v true l = l
  | [], _ => rfl
  | p :: l, h => by
    have hp := h p (List.mem_cons_self ..)
    have hne : p.k ≠ k := fun e => by rw [e, ltK_irr] at hp; cases hp
    rw [wthK, if_neg (fun e => by cases e.1), if_neg hne, Bool.true_or, wth_done fun x hx => h x (List.mem_cons_of_mem _ hx)]
    rfl
theorem wth_set {k v : ByteArray} : ∀ {l : List JP}, Srt l → wthK k v false l = setK l k v
  | [], _ => rfl
  | p :: l, h => by
    obtain ⟨h1, h2⟩ := List.pairwise_cons.1 h
    unfold setK
    rcases ltK_tri p.k k with q | q | q
    · have hn : ltK k p.k = false := by
        cases hh : ltK k p.k
        · rfl
        · have := ltK_trans q hh; rw [ltK_irr] at this; cases this
      have ea : ahK (p :: l) k = p :: ahK l k := by unfold ahK; rw [List.filter_cons, if_pos q]
      have eb : beK (p :: l) k = beK l k := by unfold beK; rw [List.filter_cons, if_neg (by simp [hn])]
      have hne : p.k ≠ k := fun e => by rw [e, ltK_irr] at q; cases q
      rw [wthK, if_neg (fun e => by rw [q] at e; cases e.2), if_neg hne, q, ea, eb]
      show [p] ++ wthK k v false l = _
      rw [wth_set h2]
      rfl
    · have hall : ∀ x ∈ l, ltK k x.k = true := fun x hx => by rw [← q]; exact h1 x hx
      have hf : ltK p.k k = false := by rw [q, ltK_irr]
      have ea : ahK (p :: l) k = [] := by
        unfold ahK
        rw [List.filter_eq_nil_iff]
        intro x hx hc
        rcases List.mem_cons.1 hx with rfl | hx
        · rw [hf] at hc; cases hc
        · have := ltK_trans (hall x hx) hc; rw [ltK_irr] at this; cases this
      have eb : beK (p :: l) k = l := by
        unfold beK
        rw [List.filter_cons, if_neg (by rw [q, ltK_irr]; simp), List.filter_eq_self.2 hall]
      rw [wthK, if_pos ⟨rfl, hf⟩, if_pos q, hf, ea, eb]
      show [⟨k, v⟩] ++ [] ++ wthK k v true l = _
      rw [wth_done hall]
      rfl
    · have hall : ∀ x ∈ p :: l, ltK k x.k = true := fun x hx => by
        rcases List.mem_cons.1 hx with rfl | hx
        · exact q
        · exact ltK_trans q (h1 x hx)
      have hf : ltK p.k k = false := by
        cases hh : ltK p.k k
        · rfl
        · have := ltK_trans q hh; rw [ltK_irr] at this; cases this
      have hne : p.k ≠ k := fun e => by rw [e, ltK_irr] at q; cases q
      have ea : ahK (p :: l) k = [] := by
        unfold ahK
        rw [List.filter_eq_nil_iff]
        intro x hx hc
        have := ltK_trans (hall x hx) hc; rw [ltK_irr] at this; cases this
      have eb : beK (p :: l) k = p :: l := by unfold beK; rw [List.filter_eq_self.2 hall]
      rw [wthK, if_pos ⟨rfl, hf⟩, if_neg hne, hf, ea, eb]
      show [⟨k, v⟩] ++ [p] ++ wthK k v true l = _
      rw [wth_done fun x hx => hall x (List.mem_cons_of_mem _ hx)]
      rfl
theorem wth_cut {k v : ByteArray} : ∀ {l : List JP}, Srt l → wthK k v true l = cutK l k
  | [], _ => rfl
  | p :: l, h => by
    obtain ⟨h1, h2⟩ := List.pairwise_cons.1 h
    rw [wthK, if_neg (fun e => by cases e.1), Bool.true_or, wth_cut h2]
    unfold cutK ahK beK
    rw [List.filter_cons, List.filter_cons]
    rcases ltK_tri p.k k with q | q | q
    · have hn : ltK k p.k = false := by
        cases hh : ltK k p.k
        · rfl
        · have := ltK_trans q hh; rw [ltK_irr] at this; cases this
      have hne : p.k ≠ k := fun e => by rw [e, ltK_irr] at q; cases q
      rw [if_neg hne, if_pos q, if_neg (by rw [hn]; simp)]
      rfl
    · rw [if_pos q, q, ltK_irr, if_neg (by simp), if_neg (by simp)]
      rfl
    · have hf : ltK p.k k = false := by
        cases hh : ltK p.k k
        · rfl
        · have := ltK_trans q hh; rw [ltK_irr] at this; cases this
      have hne : p.k ≠ k := fun e => by rw [e, ltK_irr] at q; cases q
      have ea : ahK l k = [] := by
        unfold ahK
        rw [List.filter_eq_nil_iff]
        intro x hx hc
        have := ltK_trans (ltK_trans q (h1 x hx)) hc; rw [ltK_irr] at this; cases this
      unfold ahK at ea
      rw [if_neg hne, if_neg (by rw [hf]; simp), if_pos q, ea]
      rfl
end Go.Proofs.YtgnnijpfkgmomaaGreatDoor
