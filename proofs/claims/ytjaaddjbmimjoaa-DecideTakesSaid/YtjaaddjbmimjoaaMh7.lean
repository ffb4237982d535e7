/-
  Several texts, laid together.
-/
import Derived.Test.YtjaaddjbmimjoaaMh1
import Derived.Test.YtjaaddjbmimjoaaMh6
import Derived.WalkSpells
import Derived.WalkLawsBesides
import Derived.BigQuiet
import Derived.BigRegion
import Derived.Deep.QuietTactic
import Derived.Deep.RegionWith
import Derived.Deep.RegionHeld3
import Derived.StillTailTactics
import Derived.Deep.DeepCutAuto
import Derived.Handy
import Derived.IntWalk
import Derived.Deep.Slices
import Derived.OpenShut
/-
  Lists of nodes, as the document has them: has, nodes, Lists.
-/













namespace Go.Proofs.Ytjaaddjbmimjoaa
open Go.RowKit
set_option linter.unusedVariables false

theorem mem_take_succ (l : List Int) (k : Nat) (hk : k < l.length) (n : Int) : n ∈ l.take (k + 1) ↔ n ∈ l.take k ∨ n = l.getD k 0 := by
  have e : l.getD k 0 = l[k] := by simp [List.getD, hk]
  rw [List.take_succ_eq_append_getElem hk, e]
  simp only [List.mem_append, List.mem_singleton]
def NotIn (n : Int) (l : List Int) : Prop := n ∉ l
theorem has_any (v : Value) (l : List Int) (n : Int) (w : World) (hv : SR w v 1 l.length (nCells l)) : Calls Try.prog 118 #[v, .int .i64 n] w fun e w' => e = .returned (.bool (decide (n ∈ l))) ∧ w = w' := by
  obtain ⟨ad, cap, rfl, hlc, hcm⟩ := hv.form
  unfold maxLen at hcm
  have HV := Lib.hid hv
  clear hv
  obtain ⟨r, hr⟩ : ∃ r, r = decide (n ∈ l) := ⟨_, rfl⟩
  rw [← hr]
  have HR := Lib.hid hr
  clear hr
  go_enter Try.func118, Try.ntmps118
  go_wp2_with fail
  go_loop [5] (fun i => ∃ k : Nat, k ≤ l.length ∧ i = .int .i64 k ∧ NotIn n (l.take k)) (fun i => l.length - (intOf i).toNat)
  case atStart => exact ⟨0, Nat.zero_le _, rfl, by simp [NotIn]⟩
  case round =>
    obtain ⟨k, hk, rfl, hno⟩ := hrel
    have HN := Lib.hid hno
    clear hno
    by_cases hlt : k < l.length
    · obtain ⟨b, off, rfl, hb, hcell⟩ := HV.out.int (by omega)
      have hc := hcell k hlt
      obtain ⟨x, hx⟩ : ∃ x, x = l.getD k 0 := ⟨_, rfl⟩
      rw [← hx] at hc
      have HX := Lib.hid hx
      clear hcell hx
      by_cases he : x = n
      · subst he
        go_wp2_with fail
        go_ret
        refine ⟨ret_bool ?_, rfl⟩
        rw [HR.out]
        symm
        rw [decide_eq_true_eq]
        have : x ∈ l.take (k + 1) := (mem_take_succ l k hlt x).2 (.inr HX.out)
        exact List.mem_of_mem_take this
      · go_wp2_with fail
        go_round
        case rel =>
          refine ⟨k + 1, by omega, by go_num, fun h => ?_⟩
          rcases (mem_take_succ l k hlt n).1 h with h | h
          · exact HN.out h
          · exact he (HX.out.trans h.symm)
        case measure => simp [intOf]; omega
    · obtain rfl : k = l.length := by omega
      clear hlt
      go_wp2_with fail
      go_ret
      refine ⟨ret_bool ?_, rfl⟩
      rw [HR.out]
      symm
      rw [decide_eq_false_iff_not]
      have := HN.out
      rw [NotIn, List.take_length] at this
      exact this
/-- the first k are nodes, each once -/
def okK (l : List Int) : Nat → Bool
  | 0 => true
  | k + 1 => okK l k && decide (0 ≤ l.getD k 0 ∧ l.getD k 0 ≤ 4) && !decide (l.getD k 0 ∈ l.take k)
theorem okK_le (l : List Int) (k j : Nat) (hj : j ≤ k) (h : okK l k = true) : okK l j = true := by
  induction k with
  | zero => rw [show j = 0 by omega]; rfl
  | succ k ih =>
    by_cases e : j = k + 1
    · rw [e]; exact h
    · simp only [okK, Bool.and_eq_true] at h
      exact ih (by omega) h.1.1
def nodesB (l : List Int) (least : Nat) : Bool := okK l l.length && decide (least ≤ l.length) && decide (l.length ≤ 3)
theorem bad_nodes (l : List Int) (least k : Nat) (hk : k < l.length) (h : okK l (k + 1) = false) : nodesB l least = false := by
  have : okK l l.length = false := by
    cases e : okK l l.length
    · rfl
    · rw [okK_le l l.length (k + 1) (by omega) e] at h; exact h
  simp [nodesB, this]
def OkAt (l : List Int) (k : Nat) : Prop := okK l k = true
def SameHeap (w wr : World) : Prop := wr.heap = w.heap ∧ wr.os = w.os ∧ wr.tape = w.tape ∧ wr.output = w.output
theorem SameHeap.drew {w wr : World} (h : SameHeap w wr) (n : Nat) : SameHeap w (wr.drewN n) := h
theorem SameHeap.below {w wr : World} (h : SameHeap w wr) : Below w.heap.size w wr := ⟨h.2.1, h.2.2.1, h.2.2.2, by rw [h.1]; exact Nat.le_refl _, fun k _ => by rw [h.1]⟩
theorem below_same {B : Nat} {x w wr : World} (h : Below B x w) (hs : SameHeap w wr) : Below B x wr :=
  ⟨hs.2.1.trans h.os, hs.2.2.1.trans h.tape, hs.2.2.2.trans h.output, by rw [hs.1]; exact h.size, fun k hk => by rw [hs.1]; exact h.block k hk⟩
theorem SR.same {w wr : World} {v : Value} {size n : Nat} {xs : List Value} (h : SR w v size n xs) (hs : SameHeap w wr) : SR wr v size n xs := h.below hs.below
def BoolPost (r : Bool) (w : World) (e : Ending) (w' : World) : Prop := e = .returned (.bool r) ∧ ∃ n, w' = w.drewN n
theorem BoolPost.heap {r : Bool} {w w' : World} {e : Ending} (h : BoolPost r w e w') : e = .returned (.bool r) ∧ SameHeap w w' := by
  obtain ⟨he, n, rfl⟩ := h
  exact ⟨he, rfl, rfl, rfl, rfl⟩
theorem quiet_l {P : Program} {f : FuncId} {args : Array Value} {w : World} {a n : Nat} {v : Value} (h : Calls P f args (w.drewN (a + n)) fun e w' => e = .returned v ∧ w.drewN (a + n) = w') :
    Calls P f args (w.drewN (a + n)) fun e w'' => e = .returned v ∧ ∃ m, w'' = w.drewN (a + m) := h.mono fun _ _ ⟨he, hm⟩ => ⟨he, n, hm.symm⟩
set_option maxHeartbeats 3200000 in
set_option maxRecDepth 20000 in
theorem nodes_any (v : Value) (l : List Int) (least : Nat) (w : World) (hv : SR w v 1 l.length (nCells l)) (hl : least ≤ 1) : Calls Try.prog 103 #[v, .int .i64 least] w (BoolPost (nodesB l least) w) := by
  obtain ⟨ad, cap, rfl, hlc, hcm⟩ := hv.form
  unfold maxLen at hcm
  have HV := Lib.hid hv
  clear hv
  go_enter Try.func103, Try.ntmps103
  go_wp2_with fail
  go_loopw [5] (fun i wr => ∃ k t : Nat, k ≤ l.length ∧ i = .int .i64 k ∧ OkAt l k ∧ wr = w.drewN t) (fun i _ => l.length - (intOf i).toNat)
  case atStart => exact ⟨0, 0, Nat.zero_le _, rfl, rfl, rfl⟩
  case round =>
    obtain ⟨k, t, hk, rfl, hok, rfl⟩ := hrel
    have HK := Lib.hid hok
    clear hok
    by_cases hlt : k < l.length
    · obtain ⟨b, off, rfl, hb, hcell⟩ := HV.out.int (by omega)
      have hc := hcell k hlt
      have hfr := (HV.out.front k (by omega)).same (show SameHeap w (w.drewN t) from ⟨rfl, rfl, rfl, rfl⟩)
      rw [nCells_take] at hfr
      obtain ⟨x, hx⟩ : ∃ x, x = l.getD k 0 := ⟨_, rfl⟩
      rw [← hx] at hc
      have HX := Lib.hid hx
      have hlk : (l.take k).length = k := by rw [List.length_take]; omega
      have ch : ∀ m, Calls Try.prog 118 #[.slice (some ⟨b, off, none⟩) k cap, .int .i64 x] (w.drewN m) fun e w' => e = .returned (.bool (decide (x ∈ l.take k))) ∧ w.drewN m = w' := fun m => has_any _ (l.take k) x (w.drewN m) (by rw [hlk]; exact hfr.same (show SameHeap (w.drewN t) (w.drewN m) from ⟨rfl, rfl, rfl, rfl⟩))
      have hs1 : okK l (k + 1) = (okK l k && decide (0 ≤ x ∧ x ≤ 4) && !decide (x ∈ l.take k)) := by rw [hx]; rfl
      have HS := Lib.hid hs1
      have hck : k ≤ cap := by omega
      clear hcell hx hfr hlk hs1
      have hcase : x < 0 ∨ (0 ≤ x ∧ 4 < x) ∨ (0 ≤ x ∧ x ≤ 4) := by omega
      rcases hcase with h | ⟨h, h'⟩ | ⟨h, h'⟩
      · have hd : decide (x < 0) = true := by simpa using h
        have hbad := bad_nodes l least k hlt (by rw [HS.out]; simp; omega)
        have HB := Lib.hid hbad
        clear hbad
        go_wp2_with fail
        go_quiet (fail)
        go_wp2_with fail
        go_ret
        exact ⟨ret_bool HB.out.symm, _, World.drewN_drewN _ _ _⟩
      · have hd : decide (x < 0) = false := by simp; omega
        have hd2 : decide (4 < x) = true := by simpa using h'
        have hbad := bad_nodes l least k hlt (by rw [HS.out]; simp; omega)
        have HB := Lib.hid hbad
        clear hbad
        go_wp2_with fail
        go_quiet (fail)
        go_wp2_with fail
        go_ret
        exact ⟨ret_bool HB.out.symm, _, World.drewN_drewN _ _ _⟩
      · have hd : decide (x < 0) = false := by simp; omega
        have hd2 : decide (4 < x) = false := by simp; omega
        obtain ⟨m, hm⟩ : ∃ m, m = decide (x ∈ l.take k) := ⟨_, rfl⟩
        rw [← hm] at HS
        simp only [← hm] at ch
        clear hm
        cases m
        · have hok : okK l (k + 1) = true := by rw [HS.out, HK.out]; simp; omega
          have HO := Lib.hid hok
          clear hok
          go_wp2_with fail
          go_quiet ((go_at_call 118; exact quiet_l (ch _)))
          go_wp2_with fail
          go_roundw
          case rel => exact ⟨k + 1, _, by omega, by go_num, HO.out, rfl⟩
          case measure => simp [intOf]; omega
        · have hbad := bad_nodes l least k hlt (by rw [HS.out]; simp)
          have HB := Lib.hid hbad
          clear hbad
          go_wp2_with fail
          go_quiet ((go_at_call 118; exact quiet_l (ch _)))
          go_wp2_with fail
          go_ret
          exact ⟨ret_bool HB.out.symm, _, World.drewN_drewN _ _ _⟩
    · obtain rfl : k = l.length := by omega
      have hnb : nodesB l least = (decide (least ≤ l.length) && decide (l.length ≤ 3)) := by simp [nodesB, show okK l l.length = true from HK.out]
      have HN := Lib.hid hnb
      clear hlt hnb
      have h3 : l.length < least ∨ (least ≤ l.length ∧ l.length ≤ 3) ∨ (least ≤ l.length ∧ 3 < l.length) := by omega
      rcases h3 with h | ⟨h, h'⟩ | ⟨h, h'⟩
      · have e : (decide (least ≤ l.length) && decide (l.length ≤ 3)) = false := by simp; omega
        rw [e] at HN
        go_wp2_with fail
        go_ret
        exact ⟨ret_bool (by rw [HN.out]; try simp), _, rfl⟩
      · have e : (decide (least ≤ l.length) && decide (l.length ≤ 3)) = true := by simp; omega
        rw [e] at HN
        go_wp2_with fail
        go_ret
        exact ⟨ret_bool (by rw [HN.out]; simp; omega), _, rfl⟩
      · have e : (decide (least ≤ l.length) && decide (l.length ≤ 3)) = false := by simp; omega
        rw [e] at HN
        go_wp2_with fail
        go_ret
        exact ⟨ret_bool (by rw [HN.out]; simp; omega), _, rfl⟩
theorem lists_any (u v : Value) (l m : List Int) (w : World) (hu : SR w u 1 l.length (nCells l)) (hv : SR w v 1 m.length (nCells m)) : Calls Try.prog 80 #[u, v] w (BoolPost (nodesB l 0 && nodesB m 1) w) := by
  have c1 := nodes_any u l 0 w hu (by omega)
  have c2 : ∀ n, Calls Try.prog 103 #[v, .int .i64 ((1 : Nat) : Int)] (w.drewN n) (BoolPost (nodesB m 1) (w.drewN n)) := fun n => nodes_any v m 1 _ (hv.same (show SameHeap w (w.drewN n) from ⟨rfl, rfl, rfl, rfl⟩)) (by omega)
  generalize nodesB l 0 = a at *
  generalize nodesB m 1 = b at *
  go_enter Try.func80, Try.ntmps80
  go_wp2_with fail
  refine Calls.mono c1 ?_
  rintro e w1 ⟨rfl, n, rfl⟩
  cases a
  · go_wp2_with fail
    go_ret
    exact ⟨rfl, n, rfl⟩
  · go_wp2_with fail
    refine Calls.mono (c2 n) ?_
    rintro e w2 ⟨rfl, n2, rfl⟩
    go_wp2_with fail
    go_ret
    exact ⟨ret_bool (by simp), n + n2, rfl⟩
end Go.Proofs.Ytjaaddjbmimjoaa
/-
  What an argument of any make reads as, by its shape: integers, bools, texts, structs and arrays of these, and slices of whatever may be such. Of no program.
-/



namespace Go.Proofs.Ytjaaddjbmimjoaa
open Go.RowKit Go.Deep
set_option linter.unusedVariables false

/-- a shape: 'two a b' is a and b, one behind the other; a struct is its fields so, 'unit' at the end -/
inductive Sh where
  | int (k : IntKind) | bool | str | unit | two (a b : Sh) | slice (s : Sh)
def Sh.size : Sh → Nat | .int _ => 1 | .bool => 1 | .str => 1 | .unit => 0 | .two a b => a.size + b.size | .slice _ => 1
def Sh.rep (s : Sh) : Nat → Sh | 0 => .unit | n + 1 => .two s (s.rep n)
/-- cells that have a shape -/
def Fits (w : World) : Sh → List Value → Prop
  | .int k, cs => ∃ z, cs = [.int k z] ∧ (Lit.int k z).wf = true
  | .bool, cs => ∃ b, cs = [.bool b]
  | .str, cs => ∃ s : ByteArray, cs = [.string s] ∧ s.size ≤ maxLen
  | .unit, cs => cs = []
  | .two a b, cs => ∃ x y, cs = x ++ y ∧ Fits w a x ∧ Fits w b y
  | .slice s, cs => ∃ a len cap, cs = [.slice a len cap] ∧ len ≤ cap ∧ cap ≤ maxLen ∧ (len = 0 ∨ ∃ b off, a = some ⟨b, off, none⟩ ∧ b < w.heap.size ∧
      ∀ i, i < len → ∃ ys, ys.length = s.size ∧ (∀ (j : Nat) u, ys[j]? = some u → w.cell? ⟨b, off + i * s.size + j, none⟩ = some u) ∧ Fits w s ys)
theorem Fits.length {w : World} {s : Sh} {cs : List Value} (h : Fits w s cs) : cs.length = s.size := by
  induction s generalizing cs with
  | int k => obtain ⟨z, rfl, _⟩ := h; rfl
  | bool => obtain ⟨b, rfl⟩ := h; rfl
  | str => obtain ⟨s, rfl, _⟩ := h; rfl
  | unit => cases h; rfl
  | two a b iha ihb =>
    obtain ⟨x, y, rfl, hx, hy⟩ := h
    rw [List.length_append, iha hx, ihb hy]
    rfl
  | slice s _ => obtain ⟨a, len, cap, rfl, _⟩ := h; rfl

mutual
/-- a type has a shape -/
inductive IsSh (P : Program) : TypeId → Sh → Prop
  | int {t : TypeId} {k : IntKind} (h : P.underlying t = some (.int k)) : IsSh P t (.int k)
  | bool {t : TypeId} (h : P.underlying t = some .bool) : IsSh P t .bool
  | str {t : TypeId} (h : P.underlying t = some .string) : IsSh P t .str
  | slice {t e : TypeId} {s : Sh} (h : P.underlying t = some (.slice e)) (he : IsSh P e s) (hc : P.cellsOf e = s.size) (hp : 0 < s.size) : IsSh P t (.slice s)
  | struct {t : TypeId} {fs : Array Field} {s : Sh} (h : P.underlying t = some (.struct fs)) (hf : AreSh P fs.toList 0 s) (hc : P.cellsOf t = s.size) : IsSh P t s
  | array {t e : TypeId} {n : Nat} {s : Sh} (h : P.underlying t = some (.array n e)) (he : IsSh P e s) (hc : P.cellsOf e = s.size) (hn : P.cellsOf t = (s.rep n).size) : IsSh P t (s.rep n)
/-- the fields from a place on -/
inductive AreSh (P : Program) : List Field → Nat → Sh → Prop
  | nil {off : Nat} : AreSh P [] off .unit
  | cons {f : Field} {fs : List Field} {off : Nat} {a b : Sh} (ho : f.offset = off) (h : IsSh P f.type a) (hc : P.cellsOf f.type = a.size) (hr : AreSh P fs (off + a.size) b) : AreSh P (f :: fs) off (.two a b)
end

theorem rep_size (s : Sh) (n : Nat) : (s.rep n).size = n * s.size := by
  induction n with
  | zero => simp [Sh.rep, Sh.size]
  | succ n ih => simp only [Sh.rep, Sh.size, ih, Nat.succ_mul]; omega
theorem fits_rep {w : World} {s : Sh} : ∀ (n : Nat) (cs : List Value), cs.length = n * s.size → (∀ i, i < n → Fits w s ((cs.drop (i * s.size)).take s.size)) → Fits w (s.rep n) cs
  | 0, cs, hl, _ => List.eq_nil_of_length_eq_zero (by simpa using hl)
  | n + 1, cs, hl, h => by
    refine ⟨cs.take s.size, cs.drop s.size, (List.take_append_drop _ _).symm, by simpa using h 0 (by omega), fits_rep n _ ?_ fun i hi => ?_⟩
    · rw [List.length_drop, hl, Nat.succ_mul]; omega
    · have := h (i + 1) (by omega)
      rwa [Nat.succ_mul, Nat.add_comm, ← List.drop_drop] at this
section
variable {H : Type} {enc : TypeId × Value → H} {P : Program} {w : World} {base : Nat} {spare : Nat → Bool} {held : Bool}
theorem fits_of {t : TypeId} {s : Sh} (hs : IsSh P t s) : ∀ {fuel : Nat} {cs : List Value} {x : DataW H × List MemPlace}, DataW.trod enc P w base spare held fuel t cs = some x → Fits w s cs := by
  refine IsSh.rec (motive_1 := fun t s _ => ∀ {fuel : Nat} {cs : List Value} {x : DataW H × List MemPlace}, DataW.trod enc P w base spare held fuel t cs = some x → Fits w s cs)
    (motive_2 := fun fs off s _ => ∀ (cs : List Value) (n : Nat), cs.length = off + s.size → (∀ f ∈ fs, ∃ y, DataW.trod enc P w base spare held n f.type ((cs.drop f.offset).take (P.cellsOf f.type)) = some y) → Fits w s (cs.drop off)) ?_ ?_ ?_ ?_ ?_ ?_ ?_ ?_ hs
  · intro t k h fuel cs x hx
    obtain ⟨z, hz, _, hw⟩ := DataW.trod_int h hx
    exact ⟨z, hz, hw⟩
  · intro t h fuel cs x hx
    obtain ⟨b, hb, _⟩ := DataW.trod_bool h hx
    exact ⟨b, hb⟩
  · intro t h fuel cs x hx
    obtain ⟨s, h1, _, h2⟩ := DataW.trod_string h hx
    exact ⟨s, h1, h2⟩
  · intro t e s h he hc hp ih fuel cs x hx
    rcases open_slice h hx with ⟨rfl, _⟩ | ⟨a, len, cap, m, n, D, Pl, rfl, hb, hl, hm, hmm, _, hi⟩
    · exact ⟨none, 0, 0, rfl, Nat.le_refl _, Nat.zero_le _, .inl rfl⟩
    · refine ⟨some a, len, cap, rfl, hl, hm, ?_⟩
      rcases Nat.eq_zero_or_pos len with h0 | h0
      · exact .inl h0
      right
      have hle : len ≤ m := by rw [hmm]; split <;> omega
      rw [hc] at hi
      have hcell : ∀ i, i < len → ∃ ys, ys.length = s.size ∧ (∀ (j : Nat) u, ys[j]? = some u → w.cell? ((a.add (i * s.size)).add j) = some u) ∧ Fits w s ys := by
        intro i hil
        obtain ⟨ys, h1, h2⟩ := hi i (by omega)
        obtain ⟨_, h3, h4⟩ := World.cells?_some h1
        refine ⟨ys, h3, fun j u hj => ?_, ih h2⟩
        have hjl := (List.getElem?_eq_some_iff.1 hj).1
        rw [h4 j (by omega), hj]
      obtain ⟨b, off, spot⟩ := a
      obtain ⟨ys0, l0, c0, _⟩ := hcell 0 h0
      obtain ⟨u0, hu0⟩ : ∃ u, ys0[0]? = some u := ⟨_, List.getElem?_eq_getElem (by omega)⟩
      have q := c0 0 u0 hu0
      have hs : spot = none := by
        have := World.cell?_spot q
        simpa [Addr.add] using this
      subst hs
      have hbl : b < w.heap.size := by
        have := World.block_lt_of_cell? w _ q
        simpa [Addr.add] using this
      refine ⟨b, off, rfl, hbl, fun i hil => ?_⟩
      obtain ⟨ys, h1, h2, h3⟩ := hcell i hil
      refine ⟨ys, h1, fun j u hj => ?_, h3⟩
      have := h2 j u hj
      rwa [add_off, add_off] at this
  · intro t fs s h hf hc ih fuel cs x hx
    obtain ⟨xs, n, _, _, hl, hxl, hg⟩ := DataW.trod_struct h hx
    have := ih cs n (by rw [hl, hc, Nat.zero_add]) (fun f hf => by
      obtain ⟨i, hi, rfl⟩ := List.mem_iff_getElem.1 hf
      have := hg i fs[i] (by simp at hi; simp [hi])
      rw [List.getElem?_eq_getElem (by simp at hi; omega)] at this
      exact ⟨_, by simpa using this⟩)
    simpa using this
  · intro t e n s h he hc hn ih fuel cs x hx
    obtain ⟨xs, m, _, _, hl, hxl, hg⟩ := DataW.trod_array h hx
    refine fits_rep n cs (by rw [hl, hn, rep_size]) fun i hi => ?_
    have h1 := hg i hi
    rw [hc, List.getElem?_eq_getElem (by omega)] at h1
    exact ih h1
  · intro off cs n hl _
    exact List.drop_eq_nil_of_le (by simp [Sh.size] at hl; omega)
  · intro f fs off a b ho h hc hr iha ihb cs n hl hall
    obtain ⟨y, hy⟩ := hall f (by simp)
    rw [ho, hc] at hy
    have h2 := ihb cs n (by rw [hl]; simp only [Sh.size]; omega) (fun g hg => hall g (by simp [hg]))
    refine ⟨(cs.drop off).take a.size, cs.drop (off + a.size), ?_, iha hy, h2⟩
    rw [← List.drop_drop, List.take_append_drop]
theorem fits_arg {t : TypeId} {s : Sh} {v : Value} {d : DataW H} {p : List MemPlace} (hs : IsSh P t s) (h : DataW.Trod enc P w base spare held t v d p) : Fits w s v.cells.toList := by
  obtain ⟨fuel, hf⟩ := h
  exact fits_of hs hf
end
theorem fits_agg {P : Program} {w : World} {r : Reach} {b0 : Nat} {t : TypeId} {fs : Array Field} {v : Value} {s : Sh} (ht : P.underlying t = some (.struct fs)) (hv : Value.okWide P w r b0 t v) (h : Fits w s v.cells.toList) : ∃ cs, v = .agg cs ∧ Fits w s cs.toList := by
  obtain ⟨cs, rfl, _⟩ := Go.WideShapes.okWide_struct ht hv
  exact ⟨cs, rfl, h⟩
theorem fits_slice {P : Program} {w : World} {r : Reach} {b0 : Nat} {t e : TypeId} {v : Value} {s : Sh} (ht : P.underlying t = some (.slice e)) (hv : Value.okWide P w r b0 t v) (h : Fits w s v.cells.toList) : ∃ a len cap, v = .slice a len cap ∧ Fits w s [.slice a len cap] := by
  obtain ⟨a, len, cap, rfl⟩ := Go.WideShapes.okWide_slice ht hv
  exact ⟨a, len, cap, rfl, h⟩
/-- what a slice that came in is: its length, its room, and its elements -/
theorem Fits.slice {w : World} {a : Option Addr} {len cap : Nat} {s : Sh} (h : Fits w (.slice s) [.slice a len cap]) : len ≤ cap ∧ cap ≤ maxLen ∧ (len = 0 ∨ ∃ b off, a = some ⟨b, off, none⟩ ∧ b < w.heap.size ∧
      ∀ i, i < len → ∃ ys, ys.length = s.size ∧ (∀ (j : Nat) u, ys[j]? = some u → w.cell? ⟨b, off + i * s.size + j, none⟩ = some u) ∧ Fits w s ys) := by
  obtain ⟨a', len', cap', he, h1, h2, h3⟩ := h
  simp only [List.cons.injEq, and_true] at he
  injection he with e1 e2 e3
  subst e1 e2 e3
  exact ⟨h1, h2, h3⟩
end Go.Proofs.Ytjaaddjbmimjoaa
