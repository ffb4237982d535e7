/-
  The law's model of a log: entries are laid behind a place.
-/
import Derived.Test.YtkdmnhmlkcejfaaHel
namespace Go.Proofs.Ytkdmnhmlkcejfaa
open Go.RowKit
set_option linter.unusedVariables false
set_option linter.unusedSimpArgs false

theorem elts_of_sr {w : World} {v : Value} {n : Nat} {es : List EN} (h : SR w v 7 n (enCells es)) (hn : es.length = n) : Elts w EN.cells 7 v es := by
  obtain ⟨a, c, rfl, h1, h2, h3, h4⟩ := h
  subst hn
  refine ⟨a, c, rfl, h1, h2, h4.imp id ?_⟩
  rintro ⟨b, off, rfl, hb, hc⟩
  refine ⟨b, off, rfl, hb, fun j e hj k u hu => ?_⟩
  have := hc (j * 7 + k) u (enCells_get es j e hj k u hu (List.getElem?_eq_some_iff.1 hu).1)
  rwa [← Nat.add_assoc] at this
theorem sr_take {w : World} {a : Option Addr} {n c : Nat} {es : List EN} (h : Elts w EN.cells 7 (.slice a n c) es) (hn : es.length = n) (k : Nat) (hk : k ≤ n) : SR w (.slice a k c) 7 k (enCells (es.take k)) := by
  obtain ⟨a0, c0, e, h1, h2, h3⟩ := h
  injection e with e1 e2 e3
  subst e1 e3
  have hl : (es.take k).length = k := by rw [List.length_take, hn, Nat.min_eq_left hk]
  refine ⟨_, _, rfl, by omega, h2, by rw [enCells_len, hl], ?_⟩
  rcases h3 with h3 | ⟨b, off, rfl, hb, hc⟩
  · left; omega
  · refine .inr ⟨b, off, rfl, hb, fun j u hj => ?_⟩
    have hj2 := enCells_take es k j u hj
    have hjl := (List.getElem?_eq_some_iff.1 hj2).1
    rw [enCells_len] at hjl
    obtain ⟨x, hx⟩ : ∃ x, es[j / 7]? = some x := ⟨_, List.getElem?_eq_getElem (by omega)⟩
    have hr : j % 7 < x.cells.length := by show j % 7 < 7; omega
    have h5 := enCells_get es (j / 7) x hx (j % 7) x.cells[j % 7] (List.getElem?_eq_getElem hr) (by omega)
    rw [show j / 7 * 7 + j % 7 = j by omega, hj2] at h5
    have h6 := hc (j / 7) x hx (j % 7) x.cells[j % 7] (List.getElem?_eq_getElem hr)
    rw [show off + j / 7 * 7 + j % 7 = off + j by omega] at h6
    rw [h6]; exact h5.symm
theorem sr_grown {w w' : World} {v : Value} {size n : Nat} {xs : List Value} {row : Option Nat} (h : SR w v size n xs) (hg : w.grownBy w' row) (hne : ∀ b, v.ownBlock = some b → row ≠ some b) : SR w' v size n xs := by
  obtain ⟨a, c, rfl, h1, h2, h3, h4⟩ := h
  refine ⟨a, c, rfl, h1, h2, h3, h4.imp id ?_⟩
  rintro ⟨b, off, rfl, hb, hc⟩
  exact ⟨b, off, rfl, Nat.lt_of_lt_of_le hb hg.size, fun j u hj => (World.cell?_of_block (a := ⟨b, off + j, none⟩) (hg.block b hb (fun e => hne b rfl e.symm))).trans (hc j u hj)⟩
def MS1 (X : Nat) (B T : Int) (v : Value) (b o : Nat) (t : Int) (w : World) : Prop := w.cell? ⟨X, 0, none⟩ = some (.int .i64 B) ∧ w.cell? ⟨X, 1, none⟩ = some (.int .i64 T) ∧ w.cell? ⟨X, 2, none⟩ = some v ∧ w.cell? ⟨b, o, none⟩ = some (.int .i64 t)
theorem MS1.below {X : Nat} {B T : Int} {v : Value} {b o : Nat} {t : Int} {w w' : World} (h : MS1 X B T v b o t w) (hb : Below w.heap.size w w') : MS1 X B T v b o t w' := by
  have g : ∀ b o v, w.cell? ⟨b, o, none⟩ = some v → w'.cell? ⟨b, o, none⟩ = some v := fun b o v hv => (hb.cell (World.block_lt_of_cell? w _ hv)).trans hv
  exact ⟨g _ _ _ h.1, g _ _ _ h.2.1, g _ _ _ h.2.2.1, g _ _ _ h.2.2.2⟩
theorem elts_away {w w' : World} {v : Value} {es : List EN} (h : Elts w EN.cells 7 v es) (hs : w.heap.size ≤ w'.heap.size) (hb : es.length ≠ 0 → ∀ b, v.ownBlock = some b → w'.heap[b]? = w.heap[b]?) : Elts w' EN.cells 7 v es := by
  obtain ⟨a, c, rfl, h1, h2, h3⟩ := h
  refine ⟨a, c, rfl, h1, h2, ?_⟩
  rcases Nat.eq_zero_or_pos es.length with hz | hz
  · exact .inl hz
  · refine h3.imp id ?_
    rintro ⟨b, off, rfl, hlt, hc⟩
    exact ⟨b, off, rfl, Nat.lt_of_lt_of_le hlt hs, fun j x hx k u hu => (World.cell?_of_block (a := ⟨b, off + j * 7 + k, none⟩) (hb (Nat.ne_of_gt hz) b rfl)).trans (hc j x hx k u hu)⟩
def MS2 (X : Nat) (B : Int) (v : Value) (b o : Nat) (e : EN) (w : World) : Prop := w.cell? ⟨X, 0, none⟩ = some (.int .i64 B) ∧ w.cell? ⟨X, 2, none⟩ = some v ∧ ∀ (k : Nat) (u : Value), e.cells[k]? = some u → w.cell? ⟨b, o + k, none⟩ = some u
theorem MS2.below {X : Nat} {B : Int} {v : Value} {b o : Nat} {e : EN} {w w' : World} (h : MS2 X B v b o e w) (hb : Below w.heap.size w w') : MS2 X B v b o e w' := by
  have g : ∀ b o v, w.cell? ⟨b, o, none⟩ = some v → w'.cell? ⟨b, o, none⟩ = some v := fun b o v hv => (hb.cell (World.block_lt_of_cell? w _ hv)).trans hv
  exact ⟨g _ _ _ h.1, g _ _ _ h.2.1, fun k u hu => g _ _ _ (h.2.2 k u hu)⟩
/-- the model's box, its list, and what else stays, after so many entries -/
def MRel (B T : Int) (l0 : List (Int × Int × CF)) (k0 d : Nat) (ms es : List EN) (v : Value) (w : World) (X : Nat) (j : Nat) (wr : World) : Prop := ∃ v' ms', wr.heap[X]? = some (.cells #[.int .i64 B, .int .i64 T, v'] 27) ∧ wr.heap[X + 1]? = some (.cells #[.int .i64 0, .int .i64 0, .slice none 0 0] 27) ∧
  Elts wr EN.cells 7 v' ms' ∧ ms'.map EN.k = goK l0 k0 (((es.drop d).take (j - d)).map EN.k) ∧ (∀ e ∈ ms', e ∈ ms ∨ e ∈ es) ∧ (v' = v ∨ ∀ b, v'.ownBlock = some b → X + 1 < b) ∧ Below w.heap.size w wr
def MappQ (B T : Int) (ok : Bool) (r : Int) (K : List (Int × Int × CF)) (ms es : List EN) (v : Value) (N : Nat) (w : World) (ev : Ending) (w' : World) : Prop := ∃ v' ms', ev = .returned (.tuple #[.agg #[.int .i64 B, .int .i64 T, v'], .int .i64 r, .bool ok]) ∧ Elts w' EN.cells 7 v' ms' ∧ ms'.map EN.k = K ∧ (∀ e ∈ ms', e ∈ ms ∨ e ∈ es) ∧ (v' = v ∨ ∀ b, v'.ownBlock = some b → N ≤ b) ∧ Below N w w'
def MappP (B T : Int) (ms es : List EN) (at_ t : Int) (v : Value) (w : World) : Ending → World → Prop := MappQ B T (okG B T ms at_ t) (if okG B T ms at_ t = true then toG B at_ es else 0) (if okG B T ms at_ t = true then goK (ms.map EN.k) (startG B at_ es).1 ((startG B at_ es).2.map EN.k) else ms.map EN.k) ms es v w.heap.size w
set_option maxHeartbeats 6400000 in
set_option maxRecDepth 100000 in
theorem mapp (B T at_ t : Int) (hB : 0 ≤ B ∧ B ≤ 1000) (hat : -1000000 ≤ at_ ∧ at_ ≤ 1000000) (w : World) (v : Value) (ms : List EN) (hv : Elts w EN.cells 7 v ms) (hms : ms.length ≤ 280) (u : Value) (es : List EN) (hu : Elts w EN.cells 7 u es) (hes : es.length ≤ 10) :
    Calls Try.prog 9 #[.agg (mdlA B T v), .int .i64 at_, .int .i64 t, u] w (MappP B T ms es at_ t v w) := by
  obtain ⟨i0, hi, hz0, hz1, hz2⟩ := info_parts einfoN
  obtain ⟨ua, uc, rfl, hu1, hu2, hu3⟩ := hu
  obtain ⟨va, vc, rfl, hv1, hv2, hv3⟩ := hv
  have HU := Lib.hid (show Elts w EN.cells 7 (.slice ua es.length uc) es from ⟨ua, uc, rfl, hu1, hu2, hu3⟩)
  have HV := Lib.hid (show Elts w EN.cells 7 (.slice va ms.length vc) ms from ⟨va, vc, rfl, hv1, hv2, hv3⟩)
  obtain ⟨n, hn⟩ : ∃ n, es.length = n := ⟨_, rfl⟩
  obtain ⟨m, hm⟩ : ∃ m, ms.length = m := ⟨_, rfl⟩
  have HN := Lib.hid (And.intro hn hm)
  rw [hn] at hu1 hes HU
  rw [hm] at hv1 hms HV
  rw [hn, hm]
  unfold maxLen at hu2 hv2
  have t2 := two_blocks w (.cells #[.int .i64 B, .int .i64 T, .slice va m vc] 27) (.cells #[.int .i64 0, .int .i64 0, .slice none 0 0] 27)
  have hb0 : Below w.heap.size w ((w.alloc (.cells #[.int .i64 B, .int .i64 T, .slice va m vc] 27)).alloc (.cells #[.int .i64 0, .int .i64 0, .slice none 0 0] 27)) := ((Below.refl _ _).alloc (Nat.le_refl _) _).alloc (by simp) _
  obtain ⟨S, hS⟩ : ∃ S, termG B T ms at_ = S := ⟨_, rfl⟩
  obtain ⟨ok, hok⟩ : ∃ ok, okG B T ms at_ t = ok := ⟨_, rfl⟩
  have hok2 : ok = (decide (0 ≤ at_) && (decide (at_ ≤ B + m) && (decide (at_ < B) || S == t))) := by rw [← hok, ← hS, ← hm]; rfl
  unfold MappP
  rw [hok]
  clear hok hn hm hu3 hv3
  obtain ⟨w1, hw1⟩ : ∃ w1, (w.alloc (.cells #[.int .i64 B, .int .i64 T, .slice va m vc] 27)).alloc (.cells #[.int .i64 0, .int .i64 0, .slice none 0 0] 27) = w1 := ⟨_, rfl⟩
  rw [hw1] at t2 hb0
  have cm : ∀ w', Below w.heap.size w w' → Calls Try.prog 8 #[.agg (mdlA B T (.slice va m vc)), .int .i64 at_] w' fun e w'' => e = .returned (.int .i64 S) ∧ Below w'.heap.size w' w'' := fun w' hb => by
    rw [← hS]
    exact mat B T at_ w' _ ms (HV.out.below hb) hB (by rw [HN.out.2]; omega) hat
  unfold mdlA at cm ⊢
  have HS := Lib.hid hS
  clear hS
  have H1 := Lib.hid (And.intro t2.1 (And.intro t2.2 hb0))
  have x0 := cell_atD t2.1 0 (v := .int .i64 B) rfl
  have x1 := cell_atD t2.1 1 (v := .int .i64 T) rfl
  have x2 := cell_atD t2.1 2 (v := .slice va m vc) rfl
  have y0 := cell_atD t2.2 0 (v := .int .i64 0) rfl
  have y1 := cell_atD t2.2 1 (v := .int .i64 0) rfl
  have y2 := cell_atD t2.2 2 (v := .slice none 0 0) rfl
  have fy : ∀ j, w1.frozen? ⟨w.heap.size + 1, j, none⟩ = false := fun j => by simp [World.frozen?, t2.2]
  have wBm : wrap64 (B + (m : Int)) = B + m := by unfold wrap64; omega
  clear t2 hb0
  go_enter Try.func9, Try.ntmps9
  go_upto_region 1 with fail
  clear hw1
  obtain ⟨X, hX⟩ : ∃ X, w.heap.size = X := ⟨_, rfl⟩
  rw [hX] at H1 x0 x1 x2 y0 y1 y2 fy ⊢
  have hend : ∀ w', Below X w w' → w'.heap[X + 1]? = some (.cells #[.int .i64 0, .int .i64 0, .slice none 0 0] 27) → ∀ a l c, ((((w'.setCell ⟨X + 1, 0, none⟩ (.int .i64 B)).setCell ⟨X + 1, 1, none⟩ (.int .i64 T)).setCell ⟨X + 1, 2, none⟩ (.slice a l c)).heap[X + 1]? = some (.cells #[.int .i64 B, .int .i64 T, .slice a l c] 27) ∧ Below X w (((w'.setCell ⟨X + 1, 0, none⟩ (.int .i64 B)).setCell ⟨X + 1, 1, none⟩ (.int .i64 T)).setCell ⟨X + 1, 2, none⟩ (.slice a l c))) := fun w' hb hy a l c =>
    ⟨heap_set_self (heap_set_self (heap_set_self hy 0 _) 1 _) 2 _, ((hb.setCell (Nat.le_succ X) _).setCell (Nat.le_succ X) _).setCell (Nat.le_succ X) _⟩
  have HEND := Lib.hid hend
  clear hend
  by_cases c1 : at_ < 0
  · have e : ok = false := by rw [hok2, show decide (0 ≤ at_) = false by simpa using c1]; rfl
    subst e
    have hE := HEND.out w1 H1.out.2.2 H1.out.2.1 va m vc
    have e0 := cell_atD hE.1 0 (v := .int .i64 B) rfl
    have e1 := cell_atD hE.1 1 (v := .int .i64 T) rfl
    have e2 := cell_atD hE.1 2 (v := .slice va m vc) rfl
    have HE := Lib.hid hE
    have HVE := Lib.hid (HV.out.below (by rw [hX]; exact hE.2))
    clear hok2 hE
    go_wp2_with fail
    refine bodyPost_ret (v := .tuple #[.agg #[.int .i64 B, .int .i64 T, .slice va m vc], .int .i64 0, .bool false]) (by simp [results, Try.results9, go_sem, e0, e1, e2]) rfl ?_
    exact ⟨_, ms, rfl, HVE.out, by simp, fun e he => .inl he, .inl rfl, HE.out.2⟩
  by_cases c2 : B + (m : Int) < at_
  · have e : ok = false := by rw [hok2, show decide (at_ ≤ B + m) = false by simp; omega]; simp
    subst e
    have hE := HEND.out w1 H1.out.2.2 H1.out.2.1 va m vc
    have e0 := cell_atD hE.1 0 (v := .int .i64 B) rfl
    have e1 := cell_atD hE.1 1 (v := .int .i64 T) rfl
    have e2 := cell_atD hE.1 2 (v := .slice va m vc) rfl
    have HE := Lib.hid hE
    have HVE := Lib.hid (HV.out.below (by rw [hX]; exact hE.2))
    clear hok2 hE
    go_wp2_with fail
    refine bodyPost_ret (v := .tuple #[.agg #[.int .i64 B, .int .i64 T, .slice va m vc], .int .i64 0, .bool false]) (by simp [results, Try.results9, go_sem, e0, e1, e2]) rfl ?_
    exact ⟨_, ms, rfl, HVE.out, by simp, fun e he => .inl he, .inl rfl, HE.out.2⟩
  have hok3 : ok = (decide (at_ < B) || S == t) := by rw [hok2, show decide (0 ≤ at_) = true by simp; omega, show decide (at_ ≤ B + m) = true by simp; omega]; rfl
  clear hok2
  by_cases c3 : B ≤ at_ ∧ S ≠ t
  · obtain ⟨c4, c5⟩ := c3
    have e : ok = false := by rw [hok3, show decide (at_ < B) = false by simp; omega]; simpa using c5
    subst e
    have tS2 : (S != t) = true := by simpa using c5
    have tS : (S == t) = false := by simpa using c5
    have cmm := cm w1 (by rw [hX]; exact H1.out.2.2)
    clear hok3 c5
    go_wp2_with fail
    refine Calls.mono cmm ?_
    rintro ev w2 ⟨rfl, hb2⟩
    have hx2 := below_at hb2 (lt_heap H1.out.1) H1.out.1
    have hy2 := below_at hb2 (lt_heap H1.out.2.1) H1.out.2.1
    have hB2 := H1.out.2.2.trans (hb2.mono (by have := H1.out.2.2.size; rw [hX] at this; exact this))
    have hE := HEND.out w2 hB2 hy2 va m vc
    clear x0 x1 x2 y0 y1 y2 fy cmm
    have x0 := cell_atD hx2 0 (v := .int .i64 B) rfl
    have x1 := cell_atD hx2 1 (v := .int .i64 T) rfl
    have x2 := cell_atD hx2 2 (v := .slice va m vc) rfl
    have y0 := cell_atD hy2 0 (v := .int .i64 0) rfl
    have y1 := cell_atD hy2 1 (v := .int .i64 0) rfl
    have y2 := cell_atD hy2 2 (v := .slice none 0 0) rfl
    have fy : ∀ j, w2.frozen? ⟨X + 1, j, none⟩ = false := fun j => by simp [World.frozen?, hy2]
    have e0 := cell_atD hE.1 0 (v := .int .i64 B) rfl
    have e1 := cell_atD hE.1 1 (v := .int .i64 T) rfl
    have e2 := cell_atD hE.1 2 (v := .slice va m vc) rfl
    have HE := Lib.hid hE
    have HVE := Lib.hid (HV.out.below (by rw [hX]; exact hE.2))
    clear hE hx2 hy2 hb2 hB2
    go_wp2_with fail
    refine bodyPost_ret (v := .tuple #[.agg #[.int .i64 B, .int .i64 T, .slice va m vc], .int .i64 0, .bool false]) (by simp [results, Try.results9, go_sem, e0, e1, e2]) rfl ?_
    exact ⟨_, ms, rfl, HVE.out, by simp, fun e he => .inl he, .inl rfl, HE.out.2⟩
  have e : ok = true := by rw [hok3]; by_cases c4 : at_ < B <;> simp [c4]; exact Classical.not_not.1 fun h => c3 ⟨by omega, h⟩
  subst e
  clear hok3
  by_cases c4 : at_ < B
  · obtain ⟨d, hd⟩ : ∃ d : Nat, B - at_ = d := ⟨(B - at_).toNat, by omega⟩
    have hst : startG B at_ es = (0, es.drop d) := by unfold startG; rw [if_pos c4, show (B - at_).toNat = d by omega]
    have c5 : ¬ (B ≤ at_) := by omega
    have HST := Lib.hid hst
    have HD := Lib.hid hd
    clear hst hd c3
    by_cases c6 : n ≤ d
    · have c7 : (n : Int) ≤ B - at_ := by have := HD.out; omega
      have hE := HEND.out w1 H1.out.2.2 H1.out.2.1 va m vc
      have e0 := cell_atD hE.1 0 (v := .int .i64 B) rfl
      have e1 := cell_atD hE.1 1 (v := .int .i64 T) rfl
      have e2 := cell_atD hE.1 2 (v := .slice va m vc) rfl
      have HE := Lib.hid hE
      have HVE := Lib.hid (HV.out.below (by rw [hX]; exact hE.2))
      have hz : es.drop d = [] := List.drop_eq_nil_of_le (by rw [HN.out.1]; exact c6)
      have HZ := Lib.hid hz
      clear hE hz
      go_wp2_with fail
      go_region
      go_wp2_with fail
      refine bodyPost_ret (v := .tuple #[.agg #[.int .i64 B, .int .i64 T, .slice va m vc], .int .i64 B, .bool true]) (by simp [results, Try.results9, go_sem, e0, e1, e2]) rfl ?_
      refine ⟨_, ms, ?_, by first | exact HVE.out | exact HVE.out.below (below_drewN' (Below.refl _ _) _), ?_, fun e he => .inl he, .inl rfl, by rw [hX]; first | exact HE.out.2 | exact below_drew' HE.out.2⟩
      · (try rw [if_pos rfl])
        unfold toG
        rw [HST.out, HZ.out]
        simp
      · (try rw [if_pos rfl])
        rw [HST.out, HZ.out]; rfl
    · have c7 : ¬ ((n : Int) ≤ B - at_) := by have := HD.out; omega
      have HW := Lib.hid (And.intro H1.out.1 (And.intro H1.out.2.1 H1.out.2.2))
      obtain ⟨k0, hkz⟩ : ∃ k0 : Nat, k0 = 0 := ⟨0, rfl⟩
      have hk0m : k0 ≤ m := by omega
      have HAT := Lib.hid (show at_ = B + (k0 : Int) - d by have := HD.out; omega)
      have HST' := Lib.hid (show startG B at_ es = (k0, es.drop d) by rw [hkz]; exact HST.out)
      have hdn : d ≤ n := by omega
      have HKD := Lib.hid (show d = 0 ∨ k0 = 0 from .inr hkz)
      clear hkz HD cm y0 y1 y2 fy HS
      go_upto_region 5 with fail
      go_wp2_with fail
      go_loopw [11, 12] (fun kv iv wr => ∃ (j : Nat) (K : Int), j ≤ n ∧ kv = .int .i64 K ∧ iv = .int .i64 j ∧ Hid (MRel B T (ms.map EN.k) k0 d ms es (.slice va m vc) w X j wr)) (fun _ iv _ => n - (intOf iv).toNat)
      case atStart => exact ⟨0, _, Nat.zero_le _, rfl, rfl, Lib.hid ⟨_, ms, HW.out.1, HW.out.2.1, HV.out.below (by rw [hX]; exact HW.out.2.2), by simp [goK], fun e he => .inl he, .inl rfl, by rw [hX]; exact HW.out.2.2⟩⟩
      case round =>
        obtain ⟨j, K0, hj, rfl, rfl, HR⟩ := hrel
        by_cases hlt : j < n
        · obtain ⟨v', ms', q1, q2, q3, q4, q5, q6, q7⟩ := HR.out
          obtain ⟨wa, wq, rfl, p1, p2, p3⟩ := q3
          obtain ⟨L, hL⟩ : ∃ L, ms'.length = L := ⟨_, rfl⟩
          have hEl : Elts wr EN.cells 7 (.slice wa L wq) ms' := ⟨wa, wq, by rw [hL], p1, p2, p3⟩
          rw [hL] at q1 q6 p1
          have hgl := goK_len (ms.map EN.k) k0 (((es.drop d).take (j - d)).map EN.k) (by rw [List.length_map, HN.out.2]; exact hk0m)
          rw [← q4] at hgl
          simp only [List.length_map, List.length_take, List.length_drop] at hgl
          rw [hL, HN.out.1, HN.out.2, Nat.min_eq_left (by omega)] at hgl
          obtain ⟨e, hej⟩ : ∃ e, es[j]? = some e := ⟨_, List.getElem?_eq_getElem (by rw [HN.out.1]; exact hlt)⟩
          obtain ⟨-, bu, ou, rfl, hbu, hcu⟩ := HU.out.at_ hej
          have hcw : ∀ (k : Nat) (u : Value), e.cells[k]? = some u → wr.cell? ⟨bu, ou + j * 7 + k, none⟩ = some u := fun k u hu => (q7.cell (p := ⟨bu, ou + j * 7 + k, none⟩) hbu).trans (hcu k u hu)
          have hs1 : MS1 X B T (.slice wa L wq) bu (ou + j * 7) e.t wr := ⟨cell_atD q1 0 rfl, cell_atD q1 1 rfl, cell_atD q1 2 rfl, hcw 0 _ rfl⟩
          have HS1 := Lib.hid hs1
          have hstep : ∀ l : List (Int × Int × CF), (d ≤ j → l = layK (ms'.map EN.k) (k0 + (j - d)) e.k) → (j < d → l = ms'.map EN.k) → l = goK (ms.map EN.k) k0 (((es.drop d).take (j + 1 - d)).map EN.k) := fun l h1 h2 => by
            rcases Nat.lt_or_ge j d with h | h
            · rw [h2 h, q4, show j + 1 - d = 0 by omega, show j - d = 0 by omega]
            · have hdj : (es.drop d)[j - d]? = some e := by rw [List.getElem?_drop, show d + (j - d) = j by omega]; exact hej
              rw [h1 h, q4, show j + 1 - d = (j - d) + 1 by omega, List.take_add_one, hdj]
              simp only [Option.toList_some, List.map_append, List.map_cons, List.map_nil]
              rw [goK_snoc, List.length_map, List.length_take, List.length_drop, HN.out.1, Nat.min_eq_left (by omega)]
          have HSTEP := Lib.hid hstep
          have HE := Lib.hid (And.intro hEl (And.intro hL (And.intro q5 (And.intro q6 (And.intro hej hcw)))))
          have HBU := Lib.hid (show bu < X by have := hbu; omega)
          have HQ := Lib.hid (And.intro q1 (And.intro q2 q7))
          have hL2 : L ≤ 300 := by omega
          have hLk : d ≤ j → k0 + (j - d) ≤ L := fun h => by omega
          have HLK := Lib.hid (And.intro hLk (And.intro p1 p2))
          have f0 := hs1.1
          have f2 := hs1.2.2.1
          clear hs1 hstep hEl hL q1 q2 q4 q5 q6 q7 p1 p2 p3 hgl hej hcw hcu hbu hLk
          obtain ⟨K, hK⟩ : ∃ K, at_ + (j : Int) + 1 = K := ⟨_, rfl⟩
          have hKb : -2000000 ≤ K ∧ K ≤ 2000000 := by omega
          have hKK : K - 1 - B = (k0 : Int) + j - d := by have := HAT.out; omega
          go_upto_region 10 with fail
          try rw [hK]
          have HKK := Lib.hid (And.intro hK hKK)
          clear hK hKK
          obtain ⟨stay, hstay⟩ : ∃ stay, (decide (j < d) || (decide (k0 + (j - d) < L) && ((ms'.map EN.t).getD (k0 + (j - d)) 0 == e.t))) = stay := ⟨_, rfl⟩
          have HSTAY := Lib.hid hstay
          clear hstay
          go_cut [90] (fun s wx => s = .bool stay ∧ Below wr.heap.size wr wx)
          case first =>
            have wBL : IntKind.i64.wrap (B + (L : Int)) = B + L := by rw [IntKind.wrap_i64]; omega
            by_cases r1 : j < d
            · have hst : stay = true := by rw [← HSTAY.out, show decide (j < d) = true by simpa using r1]; rfl
              subst hst
              have r2 : decide (K ≤ B) = true := by have := HKK.out.2; have := HKD.out; simp; omega
              have r3 : K ≤ B := by simpa using r2
              refine wp_region_held_drew (S := MS1 X B T (.slice wa L wq) bu (ou + j * 7) e.t) (by kernel_rfl) HS1.out (fun hHeld => ?_)
              refine wpAnyH_take (i := 0) (oi := { dst := some 66, op := Go.Op.move (Go.Operand.tmp 11), type := 3, pos := "law.go:56", after := #[], guard := none }) (v := ?va0) rfl (by kernel_rfl) (by kernel_rfl) (by kernel_rfl) (fun _ _ _ h => h) (Or.inl ⟨by rfl, ?ya0⟩) (by assumption) ?ra0
              case ya0 => (intro w hSw; obtain ⟨s1, s2, s3, s4⟩ := hSw; go_simp; try with_reducible rfl)
              try simp only [Act.put, List.setIfInBounds_toArray, List.set_cons_zero, List.set_cons_succ]
              refine wpAnyH_take (i := 1) (oi := { dst := some 67, op := Go.Op.fieldAddr 27 (Go.Operand.tmp 4) 0, type := 0, pos := "law.go:56", after := #[], guard := none }) (v := ?va1) rfl (by kernel_rfl) (by kernel_rfl) (by kernel_rfl) (fun _ _ _ h => h) (Or.inl ⟨by rfl, ?ya1⟩) (by assumption) ?ra1
              case ya1 => (intro w hSw; obtain ⟨s1, s2, s3, s4⟩ := hSw; go_simp; try with_reducible rfl)
              try simp only [Act.put, List.setIfInBounds_toArray, List.set_cons_zero, List.set_cons_succ]
              refine wpAnyH_take (i := 2) (oi := { dst := some 68, op := Go.Op.load 3 (Go.Operand.tmp 67), type := 3, pos := "law.go:56", after := #[{ on := 1, ground := Go.Ground.data }], guard := none }) (v := ?va2) rfl (by kernel_rfl) (by kernel_rfl) (by kernel_rfl) (fun _ _ _ h => h) (Or.inl ⟨by rfl, ?ya2⟩) (by assumption) ?ra2
              case ya2 => (intro w hSw; obtain ⟨s1, s2, s3, s4⟩ := hSw; go_simp; try with_reducible rfl)
              try simp only [Act.put, List.setIfInBounds_toArray, List.set_cons_zero, List.set_cons_succ]
              refine wpAnyH_take (i := 3) (oi := { dst := some 69, op := Go.Op.binOp Go.BinOp.leq 3 (Go.Operand.tmp 66) (Go.Operand.tmp 68) 3, type := 4, pos := "law.go:56", after := #[{ on := 0, ground := Go.Ground.data }, { on := 2, ground := Go.Ground.data }], guard := none }) (v := ?va3) rfl (by kernel_rfl) (by kernel_rfl) (by kernel_rfl) (fun _ _ _ h => h) (Or.inl ⟨by rfl, ?ya3⟩) (by assumption) ?ra3
              case ya3 => (intro w hSw; obtain ⟨s1, s2, s3, s4⟩ := hSw; go_simp; try with_reducible rfl)
              try simp only [Act.put, List.setIfInBounds_toArray, List.set_cons_zero, List.set_cons_succ]
              refine wpAnyH_take (i := 4) (oi := { dst := some 70, op := Go.Op.move (Go.Operand.tmp 69), type := 4, pos := "law.go:56", after := #[{ on := 3, ground := Go.Ground.data }], guard := none }) (v := ?va4) rfl (by kernel_rfl) (by kernel_rfl) (by kernel_rfl) (fun _ _ _ h => h) (Or.inl ⟨by rfl, ?ya4⟩) (by assumption) ?ra4
              case ya4 => (intro w hSw; obtain ⟨s1, s2, s3, s4⟩ := hSw; go_simp; try with_reducible rfl)
              try simp only [Act.put, List.setIfInBounds_toArray, List.set_cons_zero, List.set_cons_succ]
              refine wpAnyH_take (i := 5) (oi := { dst := some 71, op := Go.Op.move (Go.Operand.tmp 11), type := 3, pos := "law.go:56", after := #[{ on := 4, ground := Go.Ground.guard }], guard := some (4, false) }) (v := undef) rfl (by kernel_rfl) (by kernel_rfl) (by kernel_rfl) (fun _ _ _ h => h) (Or.inr ⟨by rfl, rfl⟩) (by assumption) ?_
              try simp only [Act.put, List.setIfInBounds_toArray, List.set_cons_zero, List.set_cons_succ]
              refine wpAnyH_take (i := 6) (oi := { dst := some 72, op := Go.Op.fieldAddr 27 (Go.Operand.tmp 4) 0, type := 0, pos := "law.go:56", after := #[{ on := 4, ground := Go.Ground.guard }], guard := some (4, false) }) (v := undef) rfl (by kernel_rfl) (by kernel_rfl) (by kernel_rfl) (fun _ _ _ h => h) (Or.inr ⟨by rfl, rfl⟩) (by assumption) ?_
              try simp only [Act.put, List.setIfInBounds_toArray, List.set_cons_zero, List.set_cons_succ]
              refine wpAnyH_take (i := 7) (oi := { dst := some 73, op := Go.Op.load 3 (Go.Operand.tmp 72), type := 3, pos := "law.go:56", after := #[{ on := 6, ground := Go.Ground.data }, { on := 4, ground := Go.Ground.guard }], guard := some (4, false) }) (v := undef) rfl (by kernel_rfl) (by kernel_rfl) (by kernel_rfl) (fun _ _ _ h => h) (Or.inr ⟨by rfl, rfl⟩) (by assumption) ?_
              try simp only [Act.put, List.setIfInBounds_toArray, List.set_cons_zero, List.set_cons_succ]
              refine wpAnyH_take (i := 8) (oi := { dst := some 74, op := Go.Op.fieldAddr 27 (Go.Operand.tmp 4) 2, type := 0, pos := "law.go:56", after := #[{ on := 4, ground := Go.Ground.guard }], guard := some (4, false) }) (v := undef) rfl (by kernel_rfl) (by kernel_rfl) (by kernel_rfl) (fun _ _ _ h => h) (Or.inr ⟨by rfl, rfl⟩) (by assumption) ?_
              try simp only [Act.put, List.setIfInBounds_toArray, List.set_cons_zero, List.set_cons_succ]
              refine wpAnyH_take (i := 9) (oi := { dst := some 75, op := Go.Op.load 25 (Go.Operand.tmp 74), type := 25, pos := "law.go:56", after := #[{ on := 8, ground := Go.Ground.data }, { on := 4, ground := Go.Ground.guard }], guard := some (4, false) }) (v := undef) rfl (by kernel_rfl) (by kernel_rfl) (by kernel_rfl) (fun _ _ _ h => h) (Or.inr ⟨by rfl, rfl⟩) (by assumption) ?_
              try simp only [Act.put, List.setIfInBounds_toArray, List.set_cons_zero, List.set_cons_succ]
              refine wpAnyH_take (i := 10) (oi := { dst := some 76, op := Go.Op.call { callee := Go.Callee.builtin Go.Builtin.len, args := #[Go.Operand.tmp 75], argTypes := #[25] }, type := 3, pos := "law.go:56", after := #[{ on := 9, ground := Go.Ground.data }, { on := 4, ground := Go.Ground.guard }], guard := some (4, false) }) (v := undef) rfl (by kernel_rfl) (by kernel_rfl) (by kernel_rfl) (fun _ _ _ h => h) (Or.inr ⟨by rfl, rfl⟩) (by assumption) ?_
              try simp only [Act.put, List.setIfInBounds_toArray, List.set_cons_zero, List.set_cons_succ]
              refine wpAnyH_take (i := 11) (oi := { dst := some 77, op := Go.Op.binOp Go.BinOp.add 3 (Go.Operand.tmp 73) (Go.Operand.tmp 76) 3, type := 3, pos := "law.go:56", after := #[{ on := 7, ground := Go.Ground.data }, { on := 10, ground := Go.Ground.data }, { on := 4, ground := Go.Ground.guard }], guard := some (4, false) }) (v := undef) rfl (by kernel_rfl) (by kernel_rfl) (by kernel_rfl) (fun _ _ _ h => h) (Or.inr ⟨by rfl, rfl⟩) (by assumption) ?_
              try simp only [Act.put, List.setIfInBounds_toArray, List.set_cons_zero, List.set_cons_succ]
              refine wpAnyH_take (i := 12) (oi := { dst := some 78, op := Go.Op.binOp Go.BinOp.leq 3 (Go.Operand.tmp 71) (Go.Operand.tmp 77) 3, type := 4, pos := "law.go:56", after := #[{ on := 5, ground := Go.Ground.data }, { on := 11, ground := Go.Ground.data }, { on := 4, ground := Go.Ground.guard }], guard := some (4, false) }) (v := undef) rfl (by kernel_rfl) (by kernel_rfl) (by kernel_rfl) (fun _ _ _ h => h) (Or.inr ⟨by rfl, rfl⟩) (by assumption) ?_
              try simp only [Act.put, List.setIfInBounds_toArray, List.set_cons_zero, List.set_cons_succ]
              refine wpAnyH_take (i := 13) (oi := { dst := some 79, op := Go.Op.move (Go.Operand.tmp 78), type := 4, pos := "law.go:56", after := #[{ on := 12, ground := Go.Ground.data }, { on := 4, ground := Go.Ground.chain }, { on := 4, ground := Go.Ground.guard }], guard := some (4, false) }) (v := undef) rfl (by kernel_rfl) (by kernel_rfl) (by kernel_rfl) (fun _ _ _ h => h) (Or.inr ⟨by rfl, rfl⟩) (by assumption) ?_
              try simp only [Act.put, List.setIfInBounds_toArray, List.set_cons_zero, List.set_cons_succ]
              refine wpAnyH_take (i := 14) (oi := { dst := some 80, op := Go.Op.load 27 (Go.Operand.tmp 4), type := 27, pos := "law.go:56", after := #[{ on := 13, ground := Go.Ground.guard }], guard := some (13, true) }) (v := undef) rfl (by kernel_rfl) (by kernel_rfl) (by kernel_rfl) (fun _ _ _ h => h) (Or.inr ⟨by rfl, rfl⟩) (by assumption) ?_
              try simp only [Act.put, List.setIfInBounds_toArray, List.set_cons_zero, List.set_cons_succ]
              refine wpAnyH_take (i := 15) (oi := { dst := some 81, op := Go.Op.move (Go.Operand.tmp 11), type := 3, pos := "law.go:56", after := #[{ on := 13, ground := Go.Ground.guard }], guard := some (13, true) }) (v := undef) rfl (by kernel_rfl) (by kernel_rfl) (by kernel_rfl) (fun _ _ _ h => h) (Or.inr ⟨by rfl, rfl⟩) (by assumption) ?_
              try simp only [Act.put, List.setIfInBounds_toArray, List.set_cons_zero, List.set_cons_succ]
              refine wpAnyH_take (i := 16) (oi := { dst := some 82, op := Go.Op.call { callee := Go.Callee.value (Go.Operand.func 8), args := #[Go.Operand.tmp 80, Go.Operand.tmp 81], argTypes := #[27, 3] }, type := 3, pos := "law.go:56", after := #[{ on := 14, ground := Go.Ground.data }, { on := 15, ground := Go.Ground.data }, { on := 13, ground := Go.Ground.chain }, { on := 13, ground := Go.Ground.guard }], guard := some (13, true) }) (v := undef) rfl (by kernel_rfl) (by kernel_rfl) (by kernel_rfl) (fun _ _ _ h => h) (Or.inr ⟨by rfl, rfl⟩) (by assumption) ?_
              try simp only [Act.put, List.setIfInBounds_toArray, List.set_cons_zero, List.set_cons_succ]
              refine wpAnyH_take (i := 17) (oi := { dst := some 83, op := Go.Op.move (Go.Operand.tmp 3), type := 25, pos := "law.go:56", after := #[{ on := 13, ground := Go.Ground.guard }], guard := some (13, true) }) (v := undef) rfl (by kernel_rfl) (by kernel_rfl) (by kernel_rfl) (fun _ _ _ h => h) (Or.inr ⟨by rfl, rfl⟩) (by assumption) ?_
              try simp only [Act.put, List.setIfInBounds_toArray, List.set_cons_zero, List.set_cons_succ]
              refine wpAnyH_take (i := 18) (oi := { dst := some 84, op := Go.Op.move (Go.Operand.tmp 12), type := 3, pos := "law.go:56", after := #[{ on := 13, ground := Go.Ground.guard }], guard := some (13, true) }) (v := undef) rfl (by kernel_rfl) (by kernel_rfl) (by kernel_rfl) (fun _ _ _ h => h) (Or.inr ⟨by rfl, rfl⟩) (by assumption) ?_
              try simp only [Act.put, List.setIfInBounds_toArray, List.set_cons_zero, List.set_cons_succ]
              refine wpAnyH_take (i := 19) (oi := { dst := some 85, op := Go.Op.indexAddr 25 (Go.Operand.tmp 83) (Go.Operand.tmp 84), type := 0, pos := "law.go:56", after := #[{ on := 17, ground := Go.Ground.data }, { on := 18, ground := Go.Ground.data }, { on := 13, ground := Go.Ground.guard }], guard := some (13, true) }) (v := undef) rfl (by kernel_rfl) (by kernel_rfl) (by kernel_rfl) (fun _ _ _ h => h) (Or.inr ⟨by rfl, rfl⟩) (by assumption) ?_
              try simp only [Act.put, List.setIfInBounds_toArray, List.set_cons_zero, List.set_cons_succ]
              refine wpAnyH_take (i := 20) (oi := { dst := some 86, op := Go.Op.fieldAddr 46 (Go.Operand.tmp 85) 0, type := 0, pos := "law.go:56", after := #[{ on := 19, ground := Go.Ground.data }, { on := 13, ground := Go.Ground.guard }], guard := some (13, true) }) (v := undef) rfl (by kernel_rfl) (by kernel_rfl) (by kernel_rfl) (fun _ _ _ h => h) (Or.inr ⟨by rfl, rfl⟩) (by assumption) ?_
              try simp only [Act.put, List.setIfInBounds_toArray, List.set_cons_zero, List.set_cons_succ]
              refine wpAnyH_take (i := 21) (oi := { dst := some 87, op := Go.Op.load 3 (Go.Operand.tmp 86), type := 3, pos := "law.go:56", after := #[{ on := 20, ground := Go.Ground.data }, { on := 13, ground := Go.Ground.guard }], guard := some (13, true) }) (v := undef) rfl (by kernel_rfl) (by kernel_rfl) (by kernel_rfl) (fun _ _ _ h => h) (Or.inr ⟨by rfl, rfl⟩) (by assumption) ?_
              try simp only [Act.put, List.setIfInBounds_toArray, List.set_cons_zero, List.set_cons_succ]
              refine wpAnyH_take (i := 22) (oi := { dst := some 88, op := Go.Op.binOp Go.BinOp.eql 3 (Go.Operand.tmp 82) (Go.Operand.tmp 87) 3, type := 4, pos := "law.go:56", after := #[{ on := 16, ground := Go.Ground.data }, { on := 21, ground := Go.Ground.data }, { on := 13, ground := Go.Ground.guard }], guard := some (13, true) }) (v := undef) rfl (by kernel_rfl) (by kernel_rfl) (by kernel_rfl) (fun _ _ _ h => h) (Or.inr ⟨by rfl, rfl⟩) (by assumption) ?_
              try simp only [Act.put, List.setIfInBounds_toArray, List.set_cons_zero, List.set_cons_succ]
              refine wpAnyH_take (i := 23) (oi := { dst := some 89, op := Go.Op.pick (Go.Operand.tmp 79) (Go.Operand.tmp 88) (Go.Operand.const (Go.Value.bool false)), type := 4, pos := "law.go:56", after := #[{ on := 13, ground := Go.Ground.data }, { on := 22, ground := Go.Ground.data }, { on := 4, ground := Go.Ground.guard }], guard := some (4, false) }) (v := undef) rfl (by kernel_rfl) (by kernel_rfl) (by kernel_rfl) (fun _ _ _ h => h) (Or.inr ⟨by rfl, rfl⟩) (by assumption) ?_
              try simp only [Act.put, List.setIfInBounds_toArray, List.set_cons_zero, List.set_cons_succ]
              refine wpAnyH_take (i := 24) (oi := { dst := some 90, op := Go.Op.pick (Go.Operand.tmp 70) (Go.Operand.const (Go.Value.bool true)) (Go.Operand.tmp 89), type := 4, pos := "law.go:56", after := #[{ on := 4, ground := Go.Ground.data }, { on := 23, ground := Go.Ground.data }], guard := none }) (v := ?va24) rfl (by kernel_rfl) (by kernel_rfl) (by kernel_rfl) (fun _ _ _ h => h) (Or.inl ⟨by rfl, ?ya24⟩) (by assumption) ?ra24
              case ya24 => (intro w hSw; obtain ⟨s1, s2, s3, s4⟩ := hSw; go_simp; try with_reducible rfl)
              try simp only [Act.put, List.setIfInBounds_toArray, List.set_cons_zero, List.set_cons_succ]
              refine wpAnyH_done (by kernel_rfl) ?_ _
              go_wp2_with fail
              go_meet
              exact ⟨rfl, below_drew' (Below.refl _ _)⟩
            · have r2 : decide (K ≤ B) = false := by have := HKK.out.2; simp; omega
              have r3 : ¬ (K ≤ B) := by simpa using r2
              by_cases r4 : k0 + (j - d) < L
              · have r5 : decide (K ≤ B + (L : Int)) = true := by have := HKK.out.2; simp; omega
                have r6 : K ≤ B + (L : Int) := by simpa using r5
                obtain ⟨S2, hS2⟩ : ∃ S2, (ms'.map EN.t).getD (k0 + (j - d)) 0 = S2 := ⟨_, rfl⟩
                have hst : (S2 == e.t) = stay := by rw [← HSTAY.out, show decide (j < d) = false by simpa using r1, show decide (k0 + (j - d) < L) = true by simpa using r4, hS2]; rfl
                have cmt : ∀ w', Below wr.heap.size wr w' → Calls Try.prog 8 #[.agg #[.int .i64 B, .int .i64 T, .slice wa L wq], .int .i64 K] w' fun e w'' => e = .returned (.int .i64 S2) ∧ Below w'.heap.size w' w'' := fun w' hb => by
                  have h := mat B T K w' _ ms' (HE.out.1.below hb) hB (by rw [HE.out.2.1]; omega) (by omega)
                  have e0 : termG B T ms' K = S2 := by
                    unfold termG
                    have := HKK.out.2
                    rw [if_neg (by omega), if_pos (by omega), show (K - B - 1).toNat = k0 + (j - d) by omega]
                    exact hS2
                  rw [e0] at h
                  exact h
                clear hS2
                refine wp_region_held_drew (S := MS1 X B T (.slice wa L wq) bu (ou + j * 7) e.t) (by kernel_rfl) HS1.out (fun hHeld => ?_)
                refine wpAnyH_take (i := 0) (oi := { dst := some 66, op := Go.Op.move (Go.Operand.tmp 11), type := 3, pos := "law.go:56", after := #[], guard := none }) (v := ?vc0) rfl (by kernel_rfl) (by kernel_rfl) (by kernel_rfl) (fun _ _ _ h => h) (Or.inl ⟨by rfl, ?yc0⟩) (by assumption) ?rc0
                case yc0 => (intro w hSw; obtain ⟨s1, s2, s3, s4⟩ := hSw; go_simp; try with_reducible rfl)
                try simp only [Act.put, List.setIfInBounds_toArray, List.set_cons_zero, List.set_cons_succ]
                refine wpAnyH_take (i := 1) (oi := { dst := some 67, op := Go.Op.fieldAddr 27 (Go.Operand.tmp 4) 0, type := 0, pos := "law.go:56", after := #[], guard := none }) (v := ?vc1) rfl (by kernel_rfl) (by kernel_rfl) (by kernel_rfl) (fun _ _ _ h => h) (Or.inl ⟨by rfl, ?yc1⟩) (by assumption) ?rc1
                case yc1 => (intro w hSw; obtain ⟨s1, s2, s3, s4⟩ := hSw; go_simp; try with_reducible rfl)
                try simp only [Act.put, List.setIfInBounds_toArray, List.set_cons_zero, List.set_cons_succ]
                refine wpAnyH_take (i := 2) (oi := { dst := some 68, op := Go.Op.load 3 (Go.Operand.tmp 67), type := 3, pos := "law.go:56", after := #[{ on := 1, ground := Go.Ground.data }], guard := none }) (v := ?vc2) rfl (by kernel_rfl) (by kernel_rfl) (by kernel_rfl) (fun _ _ _ h => h) (Or.inl ⟨by rfl, ?yc2⟩) (by assumption) ?rc2
                case yc2 => (intro w hSw; obtain ⟨s1, s2, s3, s4⟩ := hSw; go_simp; try with_reducible rfl)
                try simp only [Act.put, List.setIfInBounds_toArray, List.set_cons_zero, List.set_cons_succ]
                refine wpAnyH_take (i := 3) (oi := { dst := some 69, op := Go.Op.binOp Go.BinOp.leq 3 (Go.Operand.tmp 66) (Go.Operand.tmp 68) 3, type := 4, pos := "law.go:56", after := #[{ on := 0, ground := Go.Ground.data }, { on := 2, ground := Go.Ground.data }], guard := none }) (v := ?vc3) rfl (by kernel_rfl) (by kernel_rfl) (by kernel_rfl) (fun _ _ _ h => h) (Or.inl ⟨by rfl, ?yc3⟩) (by assumption) ?rc3
                case yc3 => (intro w hSw; obtain ⟨s1, s2, s3, s4⟩ := hSw; go_simp; try with_reducible rfl)
                try simp only [Act.put, List.setIfInBounds_toArray, List.set_cons_zero, List.set_cons_succ]
                refine wpAnyH_take (i := 4) (oi := { dst := some 70, op := Go.Op.move (Go.Operand.tmp 69), type := 4, pos := "law.go:56", after := #[{ on := 3, ground := Go.Ground.data }], guard := none }) (v := ?vc4) rfl (by kernel_rfl) (by kernel_rfl) (by kernel_rfl) (fun _ _ _ h => h) (Or.inl ⟨by rfl, ?yc4⟩) (by assumption) ?rc4
                case yc4 => (intro w hSw; obtain ⟨s1, s2, s3, s4⟩ := hSw; go_simp; try with_reducible rfl)
                try simp only [Act.put, List.setIfInBounds_toArray, List.set_cons_zero, List.set_cons_succ]
                refine wpAnyH_take (i := 5) (oi := { dst := some 71, op := Go.Op.move (Go.Operand.tmp 11), type := 3, pos := "law.go:56", after := #[{ on := 4, ground := Go.Ground.guard }], guard := some (4, false) }) (v := ?vc5) rfl (by kernel_rfl) (by kernel_rfl) (by kernel_rfl) (fun _ _ _ h => h) (Or.inl ⟨by rfl, ?yc5⟩) (by assumption) ?rc5
                case yc5 => (intro w hSw; obtain ⟨s1, s2, s3, s4⟩ := hSw; go_simp; try with_reducible rfl)
                try simp only [Act.put, List.setIfInBounds_toArray, List.set_cons_zero, List.set_cons_succ]
                refine wpAnyH_take (i := 6) (oi := { dst := some 72, op := Go.Op.fieldAddr 27 (Go.Operand.tmp 4) 0, type := 0, pos := "law.go:56", after := #[{ on := 4, ground := Go.Ground.guard }], guard := some (4, false) }) (v := ?vc6) rfl (by kernel_rfl) (by kernel_rfl) (by kernel_rfl) (fun _ _ _ h => h) (Or.inl ⟨by rfl, ?yc6⟩) (by assumption) ?rc6
                case yc6 => (intro w hSw; obtain ⟨s1, s2, s3, s4⟩ := hSw; go_simp; try with_reducible rfl)
                try simp only [Act.put, List.setIfInBounds_toArray, List.set_cons_zero, List.set_cons_succ]
                refine wpAnyH_take (i := 7) (oi := { dst := some 73, op := Go.Op.load 3 (Go.Operand.tmp 72), type := 3, pos := "law.go:56", after := #[{ on := 6, ground := Go.Ground.data }, { on := 4, ground := Go.Ground.guard }], guard := some (4, false) }) (v := ?vc7) rfl (by kernel_rfl) (by kernel_rfl) (by kernel_rfl) (fun _ _ _ h => h) (Or.inl ⟨by rfl, ?yc7⟩) (by assumption) ?rc7
                case yc7 => (intro w hSw; obtain ⟨s1, s2, s3, s4⟩ := hSw; go_simp; try with_reducible rfl)
                try simp only [Act.put, List.setIfInBounds_toArray, List.set_cons_zero, List.set_cons_succ]
                refine wpAnyH_take (i := 8) (oi := { dst := some 74, op := Go.Op.fieldAddr 27 (Go.Operand.tmp 4) 2, type := 0, pos := "law.go:56", after := #[{ on := 4, ground := Go.Ground.guard }], guard := some (4, false) }) (v := ?vc8) rfl (by kernel_rfl) (by kernel_rfl) (by kernel_rfl) (fun _ _ _ h => h) (Or.inl ⟨by rfl, ?yc8⟩) (by assumption) ?rc8
                case yc8 => (intro w hSw; obtain ⟨s1, s2, s3, s4⟩ := hSw; go_simp; try with_reducible rfl)
                try simp only [Act.put, List.setIfInBounds_toArray, List.set_cons_zero, List.set_cons_succ]
                refine wpAnyH_take (i := 9) (oi := { dst := some 75, op := Go.Op.load 25 (Go.Operand.tmp 74), type := 25, pos := "law.go:56", after := #[{ on := 8, ground := Go.Ground.data }, { on := 4, ground := Go.Ground.guard }], guard := some (4, false) }) (v := ?vc9) rfl (by kernel_rfl) (by kernel_rfl) (by kernel_rfl) (fun _ _ _ h => h) (Or.inl ⟨by rfl, ?yc9⟩) (by assumption) ?rc9
                case yc9 => (intro w hSw; obtain ⟨s1, s2, s3, s4⟩ := hSw; go_simp; try with_reducible rfl)
                try simp only [Act.put, List.setIfInBounds_toArray, List.set_cons_zero, List.set_cons_succ]
                refine wpAnyH_take (i := 10) (oi := { dst := some 76, op := Go.Op.call { callee := Go.Callee.builtin Go.Builtin.len, args := #[Go.Operand.tmp 75], argTypes := #[25] }, type := 3, pos := "law.go:56", after := #[{ on := 9, ground := Go.Ground.data }, { on := 4, ground := Go.Ground.guard }], guard := some (4, false) }) (v := ?vc10) rfl (by kernel_rfl) (by kernel_rfl) (by kernel_rfl) (fun _ _ _ h => h) (Or.inl ⟨by rfl, ?yc10⟩) (by assumption) ?rc10
                case yc10 => (intro w hSw; obtain ⟨s1, s2, s3, s4⟩ := hSw; go_simp; try with_reducible rfl)
                try simp only [Act.put, List.setIfInBounds_toArray, List.set_cons_zero, List.set_cons_succ]
                refine wpAnyH_take (i := 11) (oi := { dst := some 77, op := Go.Op.binOp Go.BinOp.add 3 (Go.Operand.tmp 73) (Go.Operand.tmp 76) 3, type := 3, pos := "law.go:56", after := #[{ on := 7, ground := Go.Ground.data }, { on := 10, ground := Go.Ground.data }, { on := 4, ground := Go.Ground.guard }], guard := some (4, false) }) (v := ?vc11) rfl (by kernel_rfl) (by kernel_rfl) (by kernel_rfl) (fun _ _ _ h => h) (Or.inl ⟨by rfl, ?yc11⟩) (by assumption) ?rc11
                case yc11 => (intro w hSw; obtain ⟨s1, s2, s3, s4⟩ := hSw; go_simp; try with_reducible rfl)
                try simp only [Act.put, List.setIfInBounds_toArray, List.set_cons_zero, List.set_cons_succ]
                refine wpAnyH_take (i := 12) (oi := { dst := some 78, op := Go.Op.binOp Go.BinOp.leq 3 (Go.Operand.tmp 71) (Go.Operand.tmp 77) 3, type := 4, pos := "law.go:56", after := #[{ on := 5, ground := Go.Ground.data }, { on := 11, ground := Go.Ground.data }, { on := 4, ground := Go.Ground.guard }], guard := some (4, false) }) (v := ?vc12) rfl (by kernel_rfl) (by kernel_rfl) (by kernel_rfl) (fun _ _ _ h => h) (Or.inl ⟨by rfl, ?yc12⟩) (by assumption) ?rc12
                case yc12 => (intro w hSw; obtain ⟨s1, s2, s3, s4⟩ := hSw; go_simp; try with_reducible rfl)
                try simp only [Act.put, List.setIfInBounds_toArray, List.set_cons_zero, List.set_cons_succ]
                refine wpAnyH_take (i := 13) (oi := { dst := some 79, op := Go.Op.move (Go.Operand.tmp 78), type := 4, pos := "law.go:56", after := #[{ on := 12, ground := Go.Ground.data }, { on := 4, ground := Go.Ground.chain }, { on := 4, ground := Go.Ground.guard }], guard := some (4, false) }) (v := ?vc13) rfl (by kernel_rfl) (by kernel_rfl) (by kernel_rfl) (fun _ _ _ h => h) (Or.inl ⟨by rfl, ?yc13⟩) (by assumption) ?rc13
                case yc13 => (intro w hSw; obtain ⟨s1, s2, s3, s4⟩ := hSw; go_simp; try with_reducible rfl)
                try simp only [Act.put, List.setIfInBounds_toArray, List.set_cons_zero, List.set_cons_succ]
                refine wpAnyH_take (i := 14) (oi := { dst := some 80, op := Go.Op.load 27 (Go.Operand.tmp 4), type := 27, pos := "law.go:56", after := #[{ on := 13, ground := Go.Ground.guard }], guard := some (13, true) }) (v := ?vc14) rfl (by kernel_rfl) (by kernel_rfl) (by kernel_rfl) (fun _ _ _ h => h) (Or.inl ⟨by rfl, ?yc14⟩) (by assumption) ?rc14
                case yc14 => (intro w hSw; obtain ⟨s1, s2, s3, s4⟩ := hSw; go_simp; try with_reducible rfl)
                try simp only [Act.put, List.setIfInBounds_toArray, List.set_cons_zero, List.set_cons_succ]
                refine wpAnyH_take (i := 15) (oi := { dst := some 81, op := Go.Op.move (Go.Operand.tmp 11), type := 3, pos := "law.go:56", after := #[{ on := 13, ground := Go.Ground.guard }], guard := some (13, true) }) (v := ?vc15) rfl (by kernel_rfl) (by kernel_rfl) (by kernel_rfl) (fun _ _ _ h => h) (Or.inl ⟨by rfl, ?yc15⟩) (by assumption) ?rc15
                case yc15 => (intro w hSw; obtain ⟨s1, s2, s3, s4⟩ := hSw; go_simp; try with_reducible rfl)
                try simp only [Act.put, List.setIfInBounds_toArray, List.set_cons_zero, List.set_cons_succ]
                refine wpAnyH_take (i := 17) (oi := { dst := some 83, op := Go.Op.move (Go.Operand.tmp 3), type := 25, pos := "law.go:56", after := #[{ on := 13, ground := Go.Ground.guard }], guard := some (13, true) }) (v := ?vc17) rfl (by kernel_rfl) (by kernel_rfl) (by kernel_rfl) (fun _ _ _ h => h) (Or.inl ⟨by rfl, ?yc17⟩) (by assumption) ?rc17
                case yc17 => (intro w hSw; obtain ⟨s1, s2, s3, s4⟩ := hSw; go_simp; try with_reducible rfl)
                try simp only [Act.put, List.setIfInBounds_toArray, List.set_cons_zero, List.set_cons_succ]
                refine wpAnyH_take (i := 18) (oi := { dst := some 84, op := Go.Op.move (Go.Operand.tmp 12), type := 3, pos := "law.go:56", after := #[{ on := 13, ground := Go.Ground.guard }], guard := some (13, true) }) (v := ?vc18) rfl (by kernel_rfl) (by kernel_rfl) (by kernel_rfl) (fun _ _ _ h => h) (Or.inl ⟨by rfl, ?yc18⟩) (by assumption) ?rc18
                case yc18 => (intro w hSw; obtain ⟨s1, s2, s3, s4⟩ := hSw; go_simp; try with_reducible rfl)
                try simp only [Act.put, List.setIfInBounds_toArray, List.set_cons_zero, List.set_cons_succ]
                refine wpAnyH_take (i := 19) (oi := { dst := some 85, op := Go.Op.indexAddr 25 (Go.Operand.tmp 83) (Go.Operand.tmp 84), type := 0, pos := "law.go:56", after := #[{ on := 17, ground := Go.Ground.data }, { on := 18, ground := Go.Ground.data }, { on := 13, ground := Go.Ground.guard }], guard := some (13, true) }) (v := ?vc19) rfl (by kernel_rfl) (by kernel_rfl) (by kernel_rfl) (fun _ _ _ h => h) (Or.inl ⟨by rfl, ?yc19⟩) (by assumption) ?rc19
                case yc19 => (intro w hSw; obtain ⟨s1, s2, s3, s4⟩ := hSw; go_simp; try with_reducible rfl)
                try simp only [Act.put, List.setIfInBounds_toArray, List.set_cons_zero, List.set_cons_succ]
                refine wpAnyH_take (i := 20) (oi := { dst := some 86, op := Go.Op.fieldAddr 46 (Go.Operand.tmp 85) 0, type := 0, pos := "law.go:56", after := #[{ on := 19, ground := Go.Ground.data }, { on := 13, ground := Go.Ground.guard }], guard := some (13, true) }) (v := ?vc20) rfl (by kernel_rfl) (by kernel_rfl) (by kernel_rfl) (fun _ _ _ h => h) (Or.inl ⟨by rfl, ?yc20⟩) (by assumption) ?rc20
                case yc20 => (intro w hSw; obtain ⟨s1, s2, s3, s4⟩ := hSw; go_simp; try with_reducible rfl)
                try simp only [Act.put, List.setIfInBounds_toArray, List.set_cons_zero, List.set_cons_succ]
                refine wpAnyH_take (i := 21) (oi := { dst := some 87, op := Go.Op.load 3 (Go.Operand.tmp 86), type := 3, pos := "law.go:56", after := #[{ on := 20, ground := Go.Ground.data }, { on := 13, ground := Go.Ground.guard }], guard := some (13, true) }) (v := ?vc21) rfl (by kernel_rfl) (by kernel_rfl) (by kernel_rfl) (fun _ _ _ h => h) (Or.inl ⟨by rfl, ?yc21⟩) (by assumption) ?rc21
                case yc21 => (intro w hSw; obtain ⟨s1, s2, s3, s4⟩ := hSw; go_simp; try with_reducible rfl)
                try simp only [Act.put, List.setIfInBounds_toArray, List.set_cons_zero, List.set_cons_succ]
                refine wpAnyH_ready (rs := [16]) (by kernel_rfl) (by simp) ?_
                refine AllReadyH.cons (o := { dst := some 82, op := Go.Op.call { callee := Go.Callee.value (Go.Operand.func 8), args := #[Go.Operand.tmp 80, Go.Operand.tmp 81], argTypes := #[27, 3] }, type := 3, pos := "law.go:56", after := #[{ on := 14, ground := Go.Ground.data }, { on := 15, ground := Go.Ground.data }, { on := 13, ground := Go.Ground.chain }, { on := 13, ground := Go.Ground.guard }], guard := some (13, true) }) rfl (fun K hK => ?_) AllReadyH.nil
                go_simp
                go_at_call 8
                refine Calls.mono (cmt _ (below_drew' (Below.refl _ _))) ?_
                rintro ev wz ⟨rfl, hbz⟩
                have hbz2 := (below_drew' (Below.refl wr.heap.size wr)).trans hbz
                try simp only []
                refine hK.out _ _ (HS1.out.below hbz2) (fun hHeld2 => ?_)
                clear hK K hHeld
                have hHeld := hHeld2
                clear hHeld2
                try simp only [Act.put, List.setIfInBounds_toArray, List.set_cons_zero, List.set_cons_succ]
                refine wpAnyH_take (i := 22) (oi := { dst := some 88, op := Go.Op.binOp Go.BinOp.eql 3 (Go.Operand.tmp 82) (Go.Operand.tmp 87) 3, type := 4, pos := "law.go:56", after := #[{ on := 16, ground := Go.Ground.data }, { on := 21, ground := Go.Ground.data }, { on := 13, ground := Go.Ground.guard }], guard := some (13, true) }) (v := ?vc22) rfl (by kernel_rfl) (by kernel_rfl) (by kernel_rfl) (fun _ _ _ h => h) (Or.inl ⟨by rfl, ?yc22⟩) (by assumption) ?rc22
                case yc22 => (intro w hSw; obtain ⟨s1, s2, s3, s4⟩ := hSw; go_simp; try with_reducible rfl)
                try simp only [Act.put, List.setIfInBounds_toArray, List.set_cons_zero, List.set_cons_succ]
                refine wpAnyH_take (i := 23) (oi := { dst := some 89, op := Go.Op.pick (Go.Operand.tmp 79) (Go.Operand.tmp 88) (Go.Operand.const (Go.Value.bool false)), type := 4, pos := "law.go:56", after := #[{ on := 13, ground := Go.Ground.data }, { on := 22, ground := Go.Ground.data }, { on := 4, ground := Go.Ground.guard }], guard := some (4, false) }) (v := ?vc23) rfl (by kernel_rfl) (by kernel_rfl) (by kernel_rfl) (fun _ _ _ h => h) (Or.inl ⟨by rfl, ?yc23⟩) (by assumption) ?rc23
                case yc23 => (intro w hSw; obtain ⟨s1, s2, s3, s4⟩ := hSw; go_simp; try with_reducible rfl)
                try simp only [Act.put, List.setIfInBounds_toArray, List.set_cons_zero, List.set_cons_succ]
                refine wpAnyH_take (i := 24) (oi := { dst := some 90, op := Go.Op.pick (Go.Operand.tmp 70) (Go.Operand.const (Go.Value.bool true)) (Go.Operand.tmp 89), type := 4, pos := "law.go:56", after := #[{ on := 4, ground := Go.Ground.data }, { on := 23, ground := Go.Ground.data }], guard := none }) (v := ?vc24) rfl (by kernel_rfl) (by kernel_rfl) (by kernel_rfl) (fun _ _ _ h => h) (Or.inl ⟨by rfl, ?yc24⟩) (by assumption) ?rc24
                case yc24 => (intro w hSw; obtain ⟨s1, s2, s3, s4⟩ := hSw; go_simp; try with_reducible rfl)
                try simp only [Act.put, List.setIfInBounds_toArray, List.set_cons_zero, List.set_cons_succ]
                refine wpAnyH_done (by kernel_rfl) ?_ _
                go_wp2_with fail
                go_meet
                exact ⟨by rw [← hst], hbz2⟩
              · have hst : stay = false := by rw [← HSTAY.out, show decide (j < d) = false by simpa using r1, show decide (k0 + (j - d) < L) = false by simpa using r4]; rfl
                subst hst
                have r5 : decide (K ≤ B + (L : Int)) = false := by have := HKK.out.2; have := HLK.out.1 (by omega); simp; omega
                have r6 : ¬ (K ≤ B + (L : Int)) := by simpa using r5
                refine wp_region_held_drew (S := MS1 X B T (.slice wa L wq) bu (ou + j * 7) e.t) (by kernel_rfl) HS1.out (fun hHeld => ?_)
                refine wpAnyH_take (i := 0) (oi := { dst := some 66, op := Go.Op.move (Go.Operand.tmp 11), type := 3, pos := "law.go:56", after := #[], guard := none }) (v := ?vb0) rfl (by kernel_rfl) (by kernel_rfl) (by kernel_rfl) (fun _ _ _ h => h) (Or.inl ⟨by rfl, ?yb0⟩) (by assumption) ?rb0
                case yb0 => (intro w hSw; obtain ⟨s1, s2, s3, s4⟩ := hSw; go_simp; try with_reducible rfl)
                try simp only [Act.put, List.setIfInBounds_toArray, List.set_cons_zero, List.set_cons_succ]
                refine wpAnyH_take (i := 1) (oi := { dst := some 67, op := Go.Op.fieldAddr 27 (Go.Operand.tmp 4) 0, type := 0, pos := "law.go:56", after := #[], guard := none }) (v := ?vb1) rfl (by kernel_rfl) (by kernel_rfl) (by kernel_rfl) (fun _ _ _ h => h) (Or.inl ⟨by rfl, ?yb1⟩) (by assumption) ?rb1
                case yb1 => (intro w hSw; obtain ⟨s1, s2, s3, s4⟩ := hSw; go_simp; try with_reducible rfl)
                try simp only [Act.put, List.setIfInBounds_toArray, List.set_cons_zero, List.set_cons_succ]
                refine wpAnyH_take (i := 2) (oi := { dst := some 68, op := Go.Op.load 3 (Go.Operand.tmp 67), type := 3, pos := "law.go:56", after := #[{ on := 1, ground := Go.Ground.data }], guard := none }) (v := ?vb2) rfl (by kernel_rfl) (by kernel_rfl) (by kernel_rfl) (fun _ _ _ h => h) (Or.inl ⟨by rfl, ?yb2⟩) (by assumption) ?rb2
                case yb2 => (intro w hSw; obtain ⟨s1, s2, s3, s4⟩ := hSw; go_simp; try with_reducible rfl)
                try simp only [Act.put, List.setIfInBounds_toArray, List.set_cons_zero, List.set_cons_succ]
                refine wpAnyH_take (i := 3) (oi := { dst := some 69, op := Go.Op.binOp Go.BinOp.leq 3 (Go.Operand.tmp 66) (Go.Operand.tmp 68) 3, type := 4, pos := "law.go:56", after := #[{ on := 0, ground := Go.Ground.data }, { on := 2, ground := Go.Ground.data }], guard := none }) (v := ?vb3) rfl (by kernel_rfl) (by kernel_rfl) (by kernel_rfl) (fun _ _ _ h => h) (Or.inl ⟨by rfl, ?yb3⟩) (by assumption) ?rb3
                case yb3 => (intro w hSw; obtain ⟨s1, s2, s3, s4⟩ := hSw; go_simp; try with_reducible rfl)
                try simp only [Act.put, List.setIfInBounds_toArray, List.set_cons_zero, List.set_cons_succ]
                refine wpAnyH_take (i := 4) (oi := { dst := some 70, op := Go.Op.move (Go.Operand.tmp 69), type := 4, pos := "law.go:56", after := #[{ on := 3, ground := Go.Ground.data }], guard := none }) (v := ?vb4) rfl (by kernel_rfl) (by kernel_rfl) (by kernel_rfl) (fun _ _ _ h => h) (Or.inl ⟨by rfl, ?yb4⟩) (by assumption) ?rb4
                case yb4 => (intro w hSw; obtain ⟨s1, s2, s3, s4⟩ := hSw; go_simp; try with_reducible rfl)
                try simp only [Act.put, List.setIfInBounds_toArray, List.set_cons_zero, List.set_cons_succ]
                refine wpAnyH_take (i := 5) (oi := { dst := some 71, op := Go.Op.move (Go.Operand.tmp 11), type := 3, pos := "law.go:56", after := #[{ on := 4, ground := Go.Ground.guard }], guard := some (4, false) }) (v := ?vb5) rfl (by kernel_rfl) (by kernel_rfl) (by kernel_rfl) (fun _ _ _ h => h) (Or.inl ⟨by rfl, ?yb5⟩) (by assumption) ?rb5
                case yb5 => (intro w hSw; obtain ⟨s1, s2, s3, s4⟩ := hSw; go_simp; try with_reducible rfl)
                try simp only [Act.put, List.setIfInBounds_toArray, List.set_cons_zero, List.set_cons_succ]
                refine wpAnyH_take (i := 6) (oi := { dst := some 72, op := Go.Op.fieldAddr 27 (Go.Operand.tmp 4) 0, type := 0, pos := "law.go:56", after := #[{ on := 4, ground := Go.Ground.guard }], guard := some (4, false) }) (v := ?vb6) rfl (by kernel_rfl) (by kernel_rfl) (by kernel_rfl) (fun _ _ _ h => h) (Or.inl ⟨by rfl, ?yb6⟩) (by assumption) ?rb6
                case yb6 => (intro w hSw; obtain ⟨s1, s2, s3, s4⟩ := hSw; go_simp; try with_reducible rfl)
                try simp only [Act.put, List.setIfInBounds_toArray, List.set_cons_zero, List.set_cons_succ]
                refine wpAnyH_take (i := 7) (oi := { dst := some 73, op := Go.Op.load 3 (Go.Operand.tmp 72), type := 3, pos := "law.go:56", after := #[{ on := 6, ground := Go.Ground.data }, { on := 4, ground := Go.Ground.guard }], guard := some (4, false) }) (v := ?vb7) rfl (by kernel_rfl) (by kernel_rfl) (by kernel_rfl) (fun _ _ _ h => h) (Or.inl ⟨by rfl, ?yb7⟩) (by assumption) ?rb7
                case yb7 => (intro w hSw; obtain ⟨s1, s2, s3, s4⟩ := hSw; go_simp; try with_reducible rfl)
                try simp only [Act.put, List.setIfInBounds_toArray, List.set_cons_zero, List.set_cons_succ]
                refine wpAnyH_take (i := 8) (oi := { dst := some 74, op := Go.Op.fieldAddr 27 (Go.Operand.tmp 4) 2, type := 0, pos := "law.go:56", after := #[{ on := 4, ground := Go.Ground.guard }], guard := some (4, false) }) (v := ?vb8) rfl (by kernel_rfl) (by kernel_rfl) (by kernel_rfl) (fun _ _ _ h => h) (Or.inl ⟨by rfl, ?yb8⟩) (by assumption) ?rb8
                case yb8 => (intro w hSw; obtain ⟨s1, s2, s3, s4⟩ := hSw; go_simp; try with_reducible rfl)
                try simp only [Act.put, List.setIfInBounds_toArray, List.set_cons_zero, List.set_cons_succ]
                refine wpAnyH_take (i := 9) (oi := { dst := some 75, op := Go.Op.load 25 (Go.Operand.tmp 74), type := 25, pos := "law.go:56", after := #[{ on := 8, ground := Go.Ground.data }, { on := 4, ground := Go.Ground.guard }], guard := some (4, false) }) (v := ?vb9) rfl (by kernel_rfl) (by kernel_rfl) (by kernel_rfl) (fun _ _ _ h => h) (Or.inl ⟨by rfl, ?yb9⟩) (by assumption) ?rb9
                case yb9 => (intro w hSw; obtain ⟨s1, s2, s3, s4⟩ := hSw; go_simp; try with_reducible rfl)
                try simp only [Act.put, List.setIfInBounds_toArray, List.set_cons_zero, List.set_cons_succ]
                refine wpAnyH_take (i := 10) (oi := { dst := some 76, op := Go.Op.call { callee := Go.Callee.builtin Go.Builtin.len, args := #[Go.Operand.tmp 75], argTypes := #[25] }, type := 3, pos := "law.go:56", after := #[{ on := 9, ground := Go.Ground.data }, { on := 4, ground := Go.Ground.guard }], guard := some (4, false) }) (v := ?vb10) rfl (by kernel_rfl) (by kernel_rfl) (by kernel_rfl) (fun _ _ _ h => h) (Or.inl ⟨by rfl, ?yb10⟩) (by assumption) ?rb10
                case yb10 => (intro w hSw; obtain ⟨s1, s2, s3, s4⟩ := hSw; go_simp; try with_reducible rfl)
                try simp only [Act.put, List.setIfInBounds_toArray, List.set_cons_zero, List.set_cons_succ]
                refine wpAnyH_take (i := 11) (oi := { dst := some 77, op := Go.Op.binOp Go.BinOp.add 3 (Go.Operand.tmp 73) (Go.Operand.tmp 76) 3, type := 3, pos := "law.go:56", after := #[{ on := 7, ground := Go.Ground.data }, { on := 10, ground := Go.Ground.data }, { on := 4, ground := Go.Ground.guard }], guard := some (4, false) }) (v := ?vb11) rfl (by kernel_rfl) (by kernel_rfl) (by kernel_rfl) (fun _ _ _ h => h) (Or.inl ⟨by rfl, ?yb11⟩) (by assumption) ?rb11
                case yb11 => (intro w hSw; obtain ⟨s1, s2, s3, s4⟩ := hSw; go_simp; try with_reducible rfl)
                try simp only [Act.put, List.setIfInBounds_toArray, List.set_cons_zero, List.set_cons_succ]
                refine wpAnyH_take (i := 12) (oi := { dst := some 78, op := Go.Op.binOp Go.BinOp.leq 3 (Go.Operand.tmp 71) (Go.Operand.tmp 77) 3, type := 4, pos := "law.go:56", after := #[{ on := 5, ground := Go.Ground.data }, { on := 11, ground := Go.Ground.data }, { on := 4, ground := Go.Ground.guard }], guard := some (4, false) }) (v := ?vb12) rfl (by kernel_rfl) (by kernel_rfl) (by kernel_rfl) (fun _ _ _ h => h) (Or.inl ⟨by rfl, ?yb12⟩) (by assumption) ?rb12
                case yb12 => (intro w hSw; obtain ⟨s1, s2, s3, s4⟩ := hSw; go_simp; try with_reducible rfl)
                try simp only [Act.put, List.setIfInBounds_toArray, List.set_cons_zero, List.set_cons_succ]
                refine wpAnyH_take (i := 13) (oi := { dst := some 79, op := Go.Op.move (Go.Operand.tmp 78), type := 4, pos := "law.go:56", after := #[{ on := 12, ground := Go.Ground.data }, { on := 4, ground := Go.Ground.chain }, { on := 4, ground := Go.Ground.guard }], guard := some (4, false) }) (v := ?vb13) rfl (by kernel_rfl) (by kernel_rfl) (by kernel_rfl) (fun _ _ _ h => h) (Or.inl ⟨by rfl, ?yb13⟩) (by assumption) ?rb13
                case yb13 => (intro w hSw; obtain ⟨s1, s2, s3, s4⟩ := hSw; go_simp; try with_reducible rfl)
                try simp only [Act.put, List.setIfInBounds_toArray, List.set_cons_zero, List.set_cons_succ]
                refine wpAnyH_take (i := 14) (oi := { dst := some 80, op := Go.Op.load 27 (Go.Operand.tmp 4), type := 27, pos := "law.go:56", after := #[{ on := 13, ground := Go.Ground.guard }], guard := some (13, true) }) (v := undef) rfl (by kernel_rfl) (by kernel_rfl) (by kernel_rfl) (fun _ _ _ h => h) (Or.inr ⟨by rfl, rfl⟩) (by assumption) ?_
                try simp only [Act.put, List.setIfInBounds_toArray, List.set_cons_zero, List.set_cons_succ]
                refine wpAnyH_take (i := 15) (oi := { dst := some 81, op := Go.Op.move (Go.Operand.tmp 11), type := 3, pos := "law.go:56", after := #[{ on := 13, ground := Go.Ground.guard }], guard := some (13, true) }) (v := undef) rfl (by kernel_rfl) (by kernel_rfl) (by kernel_rfl) (fun _ _ _ h => h) (Or.inr ⟨by rfl, rfl⟩) (by assumption) ?_
                try simp only [Act.put, List.setIfInBounds_toArray, List.set_cons_zero, List.set_cons_succ]
                refine wpAnyH_take (i := 16) (oi := { dst := some 82, op := Go.Op.call { callee := Go.Callee.value (Go.Operand.func 8), args := #[Go.Operand.tmp 80, Go.Operand.tmp 81], argTypes := #[27, 3] }, type := 3, pos := "law.go:56", after := #[{ on := 14, ground := Go.Ground.data }, { on := 15, ground := Go.Ground.data }, { on := 13, ground := Go.Ground.chain }, { on := 13, ground := Go.Ground.guard }], guard := some (13, true) }) (v := undef) rfl (by kernel_rfl) (by kernel_rfl) (by kernel_rfl) (fun _ _ _ h => h) (Or.inr ⟨by rfl, rfl⟩) (by assumption) ?_
                try simp only [Act.put, List.setIfInBounds_toArray, List.set_cons_zero, List.set_cons_succ]
                refine wpAnyH_take (i := 17) (oi := { dst := some 83, op := Go.Op.move (Go.Operand.tmp 3), type := 25, pos := "law.go:56", after := #[{ on := 13, ground := Go.Ground.guard }], guard := some (13, true) }) (v := undef) rfl (by kernel_rfl) (by kernel_rfl) (by kernel_rfl) (fun _ _ _ h => h) (Or.inr ⟨by rfl, rfl⟩) (by assumption) ?_
                try simp only [Act.put, List.setIfInBounds_toArray, List.set_cons_zero, List.set_cons_succ]
                refine wpAnyH_take (i := 18) (oi := { dst := some 84, op := Go.Op.move (Go.Operand.tmp 12), type := 3, pos := "law.go:56", after := #[{ on := 13, ground := Go.Ground.guard }], guard := some (13, true) }) (v := undef) rfl (by kernel_rfl) (by kernel_rfl) (by kernel_rfl) (fun _ _ _ h => h) (Or.inr ⟨by rfl, rfl⟩) (by assumption) ?_
                try simp only [Act.put, List.setIfInBounds_toArray, List.set_cons_zero, List.set_cons_succ]
                refine wpAnyH_take (i := 19) (oi := { dst := some 85, op := Go.Op.indexAddr 25 (Go.Operand.tmp 83) (Go.Operand.tmp 84), type := 0, pos := "law.go:56", after := #[{ on := 17, ground := Go.Ground.data }, { on := 18, ground := Go.Ground.data }, { on := 13, ground := Go.Ground.guard }], guard := some (13, true) }) (v := undef) rfl (by kernel_rfl) (by kernel_rfl) (by kernel_rfl) (fun _ _ _ h => h) (Or.inr ⟨by rfl, rfl⟩) (by assumption) ?_
                try simp only [Act.put, List.setIfInBounds_toArray, List.set_cons_zero, List.set_cons_succ]
                refine wpAnyH_take (i := 20) (oi := { dst := some 86, op := Go.Op.fieldAddr 46 (Go.Operand.tmp 85) 0, type := 0, pos := "law.go:56", after := #[{ on := 19, ground := Go.Ground.data }, { on := 13, ground := Go.Ground.guard }], guard := some (13, true) }) (v := undef) rfl (by kernel_rfl) (by kernel_rfl) (by kernel_rfl) (fun _ _ _ h => h) (Or.inr ⟨by rfl, rfl⟩) (by assumption) ?_
                try simp only [Act.put, List.setIfInBounds_toArray, List.set_cons_zero, List.set_cons_succ]
                refine wpAnyH_take (i := 21) (oi := { dst := some 87, op := Go.Op.load 3 (Go.Operand.tmp 86), type := 3, pos := "law.go:56", after := #[{ on := 20, ground := Go.Ground.data }, { on := 13, ground := Go.Ground.guard }], guard := some (13, true) }) (v := undef) rfl (by kernel_rfl) (by kernel_rfl) (by kernel_rfl) (fun _ _ _ h => h) (Or.inr ⟨by rfl, rfl⟩) (by assumption) ?_
                try simp only [Act.put, List.setIfInBounds_toArray, List.set_cons_zero, List.set_cons_succ]
                refine wpAnyH_take (i := 22) (oi := { dst := some 88, op := Go.Op.binOp Go.BinOp.eql 3 (Go.Operand.tmp 82) (Go.Operand.tmp 87) 3, type := 4, pos := "law.go:56", after := #[{ on := 16, ground := Go.Ground.data }, { on := 21, ground := Go.Ground.data }, { on := 13, ground := Go.Ground.guard }], guard := some (13, true) }) (v := undef) rfl (by kernel_rfl) (by kernel_rfl) (by kernel_rfl) (fun _ _ _ h => h) (Or.inr ⟨by rfl, rfl⟩) (by assumption) ?_
                try simp only [Act.put, List.setIfInBounds_toArray, List.set_cons_zero, List.set_cons_succ]
                refine wpAnyH_take (i := 23) (oi := { dst := some 89, op := Go.Op.pick (Go.Operand.tmp 79) (Go.Operand.tmp 88) (Go.Operand.const (Go.Value.bool false)), type := 4, pos := "law.go:56", after := #[{ on := 13, ground := Go.Ground.data }, { on := 22, ground := Go.Ground.data }, { on := 4, ground := Go.Ground.guard }], guard := some (4, false) }) (v := ?vb23) rfl (by kernel_rfl) (by kernel_rfl) (by kernel_rfl) (fun _ _ _ h => h) (Or.inl ⟨by rfl, ?yb23⟩) (by assumption) ?rb23
                case yb23 => (intro w hSw; obtain ⟨s1, s2, s3, s4⟩ := hSw; go_simp; try with_reducible rfl)
                try simp only [Act.put, List.setIfInBounds_toArray, List.set_cons_zero, List.set_cons_succ]
                refine wpAnyH_take (i := 24) (oi := { dst := some 90, op := Go.Op.pick (Go.Operand.tmp 70) (Go.Operand.const (Go.Value.bool true)) (Go.Operand.tmp 89), type := 4, pos := "law.go:56", after := #[{ on := 4, ground := Go.Ground.data }, { on := 23, ground := Go.Ground.data }], guard := none }) (v := ?vb24) rfl (by kernel_rfl) (by kernel_rfl) (by kernel_rfl) (fun _ _ _ h => h) (Or.inl ⟨by rfl, ?yb24⟩) (by assumption) ?rb24
                case yb24 => (intro w hSw; obtain ⟨s1, s2, s3, s4⟩ := hSw; go_simp; try with_reducible rfl)
                try simp only [Act.put, List.setIfInBounds_toArray, List.set_cons_zero, List.set_cons_succ]
                refine wpAnyH_done (by kernel_rfl) ?_ _
                go_wp2_with fail
                go_meet
                exact ⟨rfl, below_drew' (Below.refl _ _)⟩
          case rest =>
            obtain ⟨rfl, hbw⟩ := hcut
            obtain ⟨W2, hW2⟩ : ∃ W2, W2 = wc := ⟨_, rfl⟩
            subst hW2
            have hx3 := below_at hbw (lt_heap HQ.out.1) HQ.out.1
            have hy3 := below_at hbw (lt_heap HQ.out.2.1) HQ.out.2.1
            have hb3 : Below w.heap.size w W2 := HQ.out.2.2.trans (hbw.mono HQ.out.2.2.size)
            have hel3 := HE.out.1.below hbw
            obtain ⟨kk, hkk⟩ : ∃ kk, k0 + (j - d) = kk := ⟨_, rfl⟩
            rw [hkk] at HSTEP HSTAY HLK
            cases stay
            case true =>
              have hlay : d ≤ j → ms'.map EN.k = layK (ms'.map EN.k) kk e.k := fun h => by
                have h1 := HSTAY.out
                rw [show decide (j < d) = false by simpa using h, Bool.false_or, Bool.and_eq_true, decide_eq_true_eq, beq_iff_eq] at h1
                unfold layK
                rw [if_pos ⟨by rw [List.length_map, HE.out.2.1]; exact h1.1, by rw [List.map_map]; exact h1.2⟩]
              have HF := Lib.hid (show MRel B T (ms.map EN.k) k0 d ms es (.slice va m vc) w X (j + 1) W2 from ⟨_, ms', hx3, hy3, hel3, HSTEP.out _ hlay (fun _ => rfl), HE.out.2.2.1, HE.out.2.2.2.1, hb3⟩)
              clear hx3 hy3 hb3 hel3 hlay hbw
              go_wp2_with fail
              go_roundw
              case rel => exact ⟨j + 1, K, by omega, rfl, by go_num, HF⟩
              case measure => simp [intOf]; omega
            case false =>
              have hdj : d ≤ j := by
                have h1 := HSTAY.out
                rcases Nat.lt_or_ge j d with h | h
                · rw [show decide (j < d) = true by simpa using h] at h1; simp at h1
                · exact h
              have hnl : ¬ (kk < L ∧ ((ms'.map EN.t).getD kk 0) = e.t) := fun h => by
                have h1 := HSTAY.out
                rw [show decide (kk < L) = true by simpa using h.1, show ((ms'.map EN.t).getD kk 0 == e.t) = true by simpa using h.2] at h1
                simp at h1
              have hkL : kk ≤ L := HLK.out.1 hdj
              have hlay : ∀ f : EN, f.k = e.k → (ms'.take kk ++ [f]).map EN.k = layK (ms'.map EN.k) kk e.k := fun f hf => by
                unfold layK
                rw [if_neg (fun h => hnl ⟨by have := h.1; rw [List.length_map, HE.out.2.1] at this; exact this, by have := h.2; rw [List.map_map] at this; exact this⟩)]
                simp [List.map_take, hf]
              have hkq : (kk : Int) ≤ wq := by have := HLK.out.2.1; omega
              have hkL2 : (kk : Int) ≤ L := by omega
              have a0 : K - 1 - B = kk := by have := HKK.out.2; omega
              have a1 : IntKind.i64.wrap (K - 1) = K - 1 := by rw [IntKind.wrap_i64]; omega
              have a2 : IntKind.i64.wrap (K - 1 - B) = kk := by rw [IntKind.wrap_i64]; omega
              have a3 : max (kk : Int) 0 = kk := by omega
              have a4 : min (kk : Int) (L : Int) = kk := by omega
              have a5 : ¬ ((kk : Int) < 0) := by omega
              have a6 : ¬ ((L : Int) < kk) := by omega
              have hsr := sr_take hel3 HE.out.2.1 kk hkL
              have hs2 : MS2 X B (.slice wa L wq) bu (ou + j * 7) e W2 := ⟨cell_atD hx3 0 rfl, cell_atD hx3 2 rfl, fun k u hu => (hbw.cell (World.block_lt_of_cell? wr _ (HE.out.2.2.2.2.2 k u hu))).trans (HE.out.2.2.2.2.2 k u hu)⟩
              have HS2 := Lib.hid hs2
              have HSR := Lib.hid hsr
              have H3 := Lib.hid (And.intro hx3 (And.intro hy3 (And.intro hb3 (And.intro hel3 hlay))))
              have hmq := HLK.out.2.2
              clear hx3 hy3 hb3 hel3 hlay hsr hs2 hbw hnl a0
              go_upto_region 11 with fail
              have hxl := lt_heap H3.out.1
              have hleaf : ∀ (wz : World) (x2 : Value), wz.ownsRow W2.heap.size 46 7 x2 (kk + 1) (enCells (ms'.take kk) ++ enCells [e]) → Below W2.heap.size W2 wz → MRel B T (ms.map EN.k) k0 d ms es (.slice va m vc) w X (j + 1) (wz.setCell ⟨X, 2, none⟩ x2) := fun wz x2 ho hb => by
                have hz := below_at hb hxl H3.out.1
                have hz1 : (wz.setCell ⟨X, 2, none⟩ x2).heap[X]? = some (.cells #[.int .i64 B, .int .i64 T, x2] 27) := heap_set_self hz 2 _
                have hso : ∀ b, b ≠ X → (wz.setCell ⟨X, 2, none⟩ x2).heap[b]? = wz.heap[b]? := fun b hb => heap_setCell_other _ _ _ _ hb
                have hro := row_otherE ho hz (by decide)
                have ho2 : (wz.setCell ⟨X, 2, none⟩ x2).ownsRow W2.heap.size 46 7 x2 (kk + 1) (enCells (ms'.take kk ++ [e])) := by
                  rw [← enCells_append]
                  exact own_moveN ho fun b hb => hso b (fun q => hro (by rw [hb, q]))
                refine ⟨x2, ms'.take kk ++ [e], hz1, (hso _ (by omega)).trans (below_at hb (lt_heap H3.out.2.1) H3.out.2.1), elts_of_sr (SR.owns ho2) (by rw [List.length_append, List.length_take, HE.out.2.1, Nat.min_eq_left hkL]; rfl), HSTEP.out _ (fun _ => H3.out.2.2.2.2 e rfl) (fun h => absurd h (by omega)), fun f hf => ?_, .inr fun b hb => ?_, ?_⟩
                · rcases List.mem_append.1 hf with q | q
                  · exact HE.out.2.2.1 f (List.mem_of_mem_take q)
                  · rw [List.mem_singleton.1 q]; exact .inr (List.mem_of_getElem? HE.out.2.2.2.2.1)
                · have h1 := (ho.lt b hb).1
                  have h2 := lt_heap H3.out.2.1
                  omega
                · exact (H3.out.2.2.1.trans (hb.mono H3.out.2.2.1.size)).setCell (by show w.heap.size ≤ X; omega) _
              have HLEAF := Lib.hid hleaf
              have hbX : bu ≠ X := by
                have h := HE.out.2.2.2.2.2 0 _ rfl
                intro q
                have h2 := HBU.out
                omega
              clear hleaf
              have HB := Lib.hid (show Below W2.heap.size W2 W2.drew from below_drew' (Below.refl _ _))
              obtain ⟨v0, hv0⟩ : ∃ v0, v0 = W2.drew := ⟨_, rfl⟩
              refine goes_start (S := MS2 X B (.slice wa L wq) bu (ou + j * 7) e) (by kernel_rfl) HS2.out (fun hHeld => ?_)
              refine goes_take (i := 1) (oi := { dst := some 92, op := Go.Op.fieldAddr 27 (Go.Operand.tmp 4) 2, type := 0, pos := "law.go:59", after := #[], guard := none }) (v := ?vd1) rfl (by kernel_rfl) (by kernel_rfl) (by kernel_rfl) (fun _ _ _ h => h) (Or.inl ⟨by rfl, ?yd1⟩) (by assumption) ?rd1
              case yd1 => (intro w hSw; obtain ⟨s1, s2, s3⟩ := hSw; go_simp; try with_reducible rfl)
              try simp only [Act.put, List.setIfInBounds_toArray, List.set_cons_zero, List.set_cons_succ]
              refine goes_take (i := 2) (oi := { dst := some 93, op := Go.Op.load 25 (Go.Operand.tmp 92), type := 25, pos := "law.go:59", after := #[{ on := 1, ground := Go.Ground.data }], guard := none }) (v := ?vd2) rfl (by kernel_rfl) (by kernel_rfl) (by kernel_rfl) (fun _ _ _ h => h) (Or.inl ⟨by rfl, ?yd2⟩) (by assumption) ?rd2
              case yd2 => (intro w hSw; obtain ⟨s1, s2, s3⟩ := hSw; go_simp; try with_reducible rfl)
              try simp only [Act.put, List.setIfInBounds_toArray, List.set_cons_zero, List.set_cons_succ]
              refine goes_take (i := 3) (oi := { dst := some 94, op := Go.Op.move (Go.Operand.tmp 11), type := 3, pos := "law.go:59", after := #[], guard := none }) (v := ?vd3) rfl (by kernel_rfl) (by kernel_rfl) (by kernel_rfl) (fun _ _ _ h => h) (Or.inl ⟨by rfl, ?yd3⟩) (by assumption) ?rd3
              case yd3 => (intro w hSw; obtain ⟨s1, s2, s3⟩ := hSw; go_simp; try with_reducible rfl)
              try simp only [Act.put, List.setIfInBounds_toArray, List.set_cons_zero, List.set_cons_succ]
              refine goes_take (i := 4) (oi := { dst := some 95, op := Go.Op.binOp Go.BinOp.sub 3 (Go.Operand.tmp 94) (Go.Operand.const (Go.Value.int Go.IntKind.i64 1)) 3, type := 3, pos := "law.go:59", after := #[{ on := 3, ground := Go.Ground.data }], guard := none }) (v := ?vd4) rfl (by kernel_rfl) (by kernel_rfl) (by kernel_rfl) (fun _ _ _ h => h) (Or.inl ⟨by rfl, ?yd4⟩) (by assumption) ?rd4
              case yd4 => (intro w hSw; obtain ⟨s1, s2, s3⟩ := hSw; go_simp; try with_reducible rfl)
              try simp only [Act.put, List.setIfInBounds_toArray, List.set_cons_zero, List.set_cons_succ]
              refine goes_take (i := 5) (oi := { dst := some 96, op := Go.Op.fieldAddr 27 (Go.Operand.tmp 4) 0, type := 0, pos := "law.go:59", after := #[], guard := none }) (v := ?vd5) rfl (by kernel_rfl) (by kernel_rfl) (by kernel_rfl) (fun _ _ _ h => h) (Or.inl ⟨by rfl, ?yd5⟩) (by assumption) ?rd5
              case yd5 => (intro w hSw; obtain ⟨s1, s2, s3⟩ := hSw; go_simp; try with_reducible rfl)
              try simp only [Act.put, List.setIfInBounds_toArray, List.set_cons_zero, List.set_cons_succ]
              refine goes_take (i := 6) (oi := { dst := some 97, op := Go.Op.load 3 (Go.Operand.tmp 96), type := 3, pos := "law.go:59", after := #[{ on := 5, ground := Go.Ground.data }], guard := none }) (v := ?vd6) rfl (by kernel_rfl) (by kernel_rfl) (by kernel_rfl) (fun _ _ _ h => h) (Or.inl ⟨by rfl, ?yd6⟩) (by assumption) ?rd6
              case yd6 => (intro w hSw; obtain ⟨s1, s2, s3⟩ := hSw; go_simp; try with_reducible rfl)
              try simp only [Act.put, List.setIfInBounds_toArray, List.set_cons_zero, List.set_cons_succ]
              refine goes_take (i := 7) (oi := { dst := some 98, op := Go.Op.binOp Go.BinOp.sub 3 (Go.Operand.tmp 95) (Go.Operand.tmp 97) 3, type := 3, pos := "law.go:59", after := #[{ on := 4, ground := Go.Ground.data }, { on := 6, ground := Go.Ground.data }], guard := none }) (v := ?vd7) rfl (by kernel_rfl) (by kernel_rfl) (by kernel_rfl) (fun _ _ _ h => h) (Or.inl ⟨by rfl, ?yd7⟩) (by assumption) ?rd7
              case yd7 => (intro w hSw; obtain ⟨s1, s2, s3⟩ := hSw; go_simp; try with_reducible rfl)
              try simp only [Act.put, List.setIfInBounds_toArray, List.set_cons_zero, List.set_cons_succ]
              refine goes_take (i := 8) (oi := { dst := some 99, op := Go.Op.call { callee := Go.Callee.builtin Go.Builtin.max, args := #[Go.Operand.tmp 98, Go.Operand.const (Go.Value.int Go.IntKind.i64 0)], argTypes := #[3, 3] }, type := 3, pos := "law.go:59", after := #[{ on := 7, ground := Go.Ground.data }], guard := none }) (v := ?vd8) rfl (by kernel_rfl) (by kernel_rfl) (by kernel_rfl) (fun _ _ _ h => h) (Or.inl ⟨by rfl, ?yd8⟩) (by assumption) ?rd8
              case yd8 => (intro w hSw; obtain ⟨s1, s2, s3⟩ := hSw; go_simp; try with_reducible rfl)
              try simp only [Act.put, List.setIfInBounds_toArray, List.set_cons_zero, List.set_cons_succ]
              refine goes_take (i := 9) (oi := { dst := some 100, op := Go.Op.fieldAddr 27 (Go.Operand.tmp 4) 2, type := 0, pos := "law.go:59", after := #[], guard := none }) (v := ?vd9) rfl (by kernel_rfl) (by kernel_rfl) (by kernel_rfl) (fun _ _ _ h => h) (Or.inl ⟨by rfl, ?yd9⟩) (by assumption) ?rd9
              case yd9 => (intro w hSw; obtain ⟨s1, s2, s3⟩ := hSw; go_simp; try with_reducible rfl)
              try simp only [Act.put, List.setIfInBounds_toArray, List.set_cons_zero, List.set_cons_succ]
              refine goes_take (i := 10) (oi := { dst := some 101, op := Go.Op.load 25 (Go.Operand.tmp 100), type := 25, pos := "law.go:59", after := #[{ on := 9, ground := Go.Ground.data }], guard := none }) (v := ?vd10) rfl (by kernel_rfl) (by kernel_rfl) (by kernel_rfl) (fun _ _ _ h => h) (Or.inl ⟨by rfl, ?yd10⟩) (by assumption) ?rd10
              case yd10 => (intro w hSw; obtain ⟨s1, s2, s3⟩ := hSw; go_simp; try with_reducible rfl)
              try simp only [Act.put, List.setIfInBounds_toArray, List.set_cons_zero, List.set_cons_succ]
              refine goes_take (i := 11) (oi := { dst := some 102, op := Go.Op.call { callee := Go.Callee.builtin Go.Builtin.len, args := #[Go.Operand.tmp 101], argTypes := #[25] }, type := 3, pos := "law.go:59", after := #[{ on := 10, ground := Go.Ground.data }], guard := none }) (v := ?vd11) rfl (by kernel_rfl) (by kernel_rfl) (by kernel_rfl) (fun _ _ _ h => h) (Or.inl ⟨by rfl, ?yd11⟩) (by assumption) ?rd11
              case yd11 => (intro w hSw; obtain ⟨s1, s2, s3⟩ := hSw; go_simp; try with_reducible rfl)
              try simp only [Act.put, List.setIfInBounds_toArray, List.set_cons_zero, List.set_cons_succ]
              refine goes_take (i := 12) (oi := { dst := some 103, op := Go.Op.call { callee := Go.Callee.builtin Go.Builtin.min, args := #[Go.Operand.tmp 99, Go.Operand.tmp 102], argTypes := #[3, 3] }, type := 3, pos := "law.go:59", after := #[{ on := 8, ground := Go.Ground.data }, { on := 11, ground := Go.Ground.data }], guard := none }) (v := ?vd12) rfl (by kernel_rfl) (by kernel_rfl) (by kernel_rfl) (fun _ _ _ h => h) (Or.inl ⟨by rfl, ?yd12⟩) (by assumption) ?rd12
              case yd12 => (intro w hSw; obtain ⟨s1, s2, s3⟩ := hSw; go_simp; try with_reducible rfl)
              try simp only [Act.put, List.setIfInBounds_toArray, List.set_cons_zero, List.set_cons_succ]
              refine goes_take (i := 13) (oi := { dst := some 104, op := Go.Op.slice 25 (Go.Operand.tmp 93) none (some (Go.Operand.tmp 103)) none, type := 25, pos := "law.go:59", after := #[{ on := 2, ground := Go.Ground.data }, { on := 12, ground := Go.Ground.data }], guard := none }) (v := ?vd13) rfl (by kernel_rfl) (by kernel_rfl) (by kernel_rfl) (fun _ _ _ h => h) (Or.inl ⟨by rfl, ?yd13⟩) (by assumption) ?rd13
              case yd13 => (intro w hSw; obtain ⟨s1, s2, s3⟩ := hSw; go_simp; try with_reducible rfl)
              try simp only [Act.put, List.setIfInBounds_toArray, List.set_cons_zero, List.set_cons_succ]
              refine goes_take (i := 15) (oi := { dst := some 106, op := Go.Op.move (Go.Operand.tmp 3), type := 25, pos := "law.go:59", after := #[], guard := none }) (v := ?vd15) rfl (by kernel_rfl) (by kernel_rfl) (by kernel_rfl) (fun _ _ _ h => h) (Or.inl ⟨by rfl, ?yd15⟩) (by assumption) ?rd15
              case yd15 => (intro w hSw; obtain ⟨s1, s2, s3⟩ := hSw; go_simp; try with_reducible rfl)
              try simp only [Act.put, List.setIfInBounds_toArray, List.set_cons_zero, List.set_cons_succ]
              refine goes_take (i := 16) (oi := { dst := some 107, op := Go.Op.move (Go.Operand.tmp 12), type := 3, pos := "law.go:59", after := #[], guard := none }) (v := ?vd16) rfl (by kernel_rfl) (by kernel_rfl) (by kernel_rfl) (fun _ _ _ h => h) (Or.inl ⟨by rfl, ?yd16⟩) (by assumption) ?rd16
              case yd16 => (intro w hSw; obtain ⟨s1, s2, s3⟩ := hSw; go_simp; try with_reducible rfl)
              try simp only [Act.put, List.setIfInBounds_toArray, List.set_cons_zero, List.set_cons_succ]
              refine goes_take (i := 17) (oi := { dst := some 108, op := Go.Op.indexAddr 25 (Go.Operand.tmp 106) (Go.Operand.tmp 107), type := 0, pos := "law.go:59", after := #[{ on := 15, ground := Go.Ground.data }, { on := 16, ground := Go.Ground.data }], guard := none }) (v := ?vd17) rfl (by kernel_rfl) (by kernel_rfl) (by kernel_rfl) (fun _ _ _ h => h) (Or.inl ⟨by rfl, ?yd17⟩) (by assumption) ?rd17
              case yd17 => (intro w hSw; obtain ⟨s1, s2, s3⟩ := hSw; go_simp; try with_reducible rfl)
              try simp only [Act.put, List.setIfInBounds_toArray, List.set_cons_zero, List.set_cons_succ]
              refine goes_take (i := 18) (oi := { dst := some 109, op := Go.Op.load 46 (Go.Operand.tmp 108), type := 46, pos := "law.go:59", after := #[{ on := 17, ground := Go.Ground.data }], guard := none }) (v := ?vd18) rfl (by kernel_rfl) (by kernel_rfl) (by kernel_rfl) (fun _ _ _ h => h) (Or.inl ⟨by rfl, ?yd18⟩) (by assumption) ?rd18
              case yd18 => (intro w hSw; obtain ⟨s1, s2, s3⟩ := hSw; (have s30 : w.cell? ⟨bu, ou + j * 7, none⟩ = some (.int .i64 e.t) := s3 0 _ rfl); (have s31 : w.cell? ⟨bu, ou + j * 7 + 1, none⟩ = some (.int .i64 e.x) := s3 1 _ rfl); (have s32 : w.cell? ⟨bu, ou + j * 7 + 2, none⟩ = some (.int .i64 e.c.e) := s3 2 _ rfl); (have s33 : w.cell? ⟨bu, ou + j * 7 + 3, none⟩ = some (.int .i64 e.c.b) := s3 3 _ rfl); (have s34 : w.cell? ⟨bu, ou + j * 7 + 4, none⟩ = some (.int .i64 e.c.k) := s3 4 _ rfl); (have s35 : w.cell? ⟨bu, ou + j * 7 + 5, none⟩ = some (.slice e.a1 e.c.M.length e.q1) := s3 5 _ rfl); (have s36 : w.cell? ⟨bu, ou + j * 7 + 6, none⟩ = some (.slice e.a2 e.c.C.length e.q2) := s3 6 _ rfl); go_simp; try with_reducible rfl)
              try simp only [Act.put, List.setIfInBounds_toArray, List.set_cons_zero, List.set_cons_succ]
              rw [← hv0] at HB hHeld ⊢
              clear hv0
              refine goes_ready (rs := [0, 19]) (by kernel_rfl) (by simp) ?_
              refine GoesEach.cons (o := { dst := some 91, op := Go.Op.buildSlice 25 0 #[], type := 25, pos := "law.go:59", after := #[], guard := none }) rfl (fun K hK => ?_) (GoesEach.cons (o := { dst := some 110, op := Go.Op.buildSlice 25 1 #[(0, Go.Operand.tmp 109)], type := 25, pos := "law.go:59", after := #[{ on := 18, ground := Go.Ground.data }], guard := none }) rfl (fun K hK => ?_) GoesEach.nil)
              · rw [if_pos (by kernel_rfl)]
                refine wp_bs0R ?ho1 Try.underlying25 hi ?hr1
                case ho1 => rfl
                have hB := (HB.out.alloc HB.out.size (.cells #[] 46))
                have hO : (v0.alloc (.cells #[] 46)).ownsRow W2.heap.size 46 7 (.slice (some ⟨v0.heap.size, 0, none⟩) 0 0) 0 [] := World.ownsRow_lit (base := W2.heap.size) v0 #[] 0 HB.out.size (by decide) rfl
                refine hK.out _ _ (HS2.out.below hB) (fun hHeld2 => ?_)
                clear hK K hHeld
                have hHeld := hHeld2
                clear hHeld2
                try simp only [Act.put, List.setIfInBounds_toArray, List.set_cons_zero, List.set_cons_succ]
                generalize v0.alloc (.cells #[] 46) = v1 at *
                obtain ⟨E0, hE0⟩ : ∃ E0, v0.heap.size = E0 := ⟨_, rfl⟩
                rw [hE0] at hO ⊢
                have HB2 := Lib.hid hB
                have HO := Lib.hid hO
                clear HB hB hO
                have HB := HB2
                clear HB2
                have HE0 := Lib.hid hE0
                refine goes_ready (rs := [14, 19]) (by kernel_rfl) (by simp) ?_
                refine GoesEach.cons (o := { dst := some 105, op := Go.Op.call { callee := Go.Callee.builtin Go.Builtin.append, args := #[Go.Operand.tmp 91, Go.Operand.tmp 104], argTypes := #[25, 25] }, type := 25, pos := "law.go:59", after := #[{ on := 0, ground := Go.Ground.data }, { on := 13, ground := Go.Ground.data }], guard := none }) rfl (fun K hK => ?_) (GoesEach.cons (o := { dst := some 110, op := Go.Op.buildSlice 25 1 #[(0, Go.Operand.tmp 109)], type := 25, pos := "law.go:59", after := #[{ on := 18, ground := Go.Ground.data }], guard := none }) rfl (fun K hK => ?_) GoesEach.nil)
                · refine step_app Try.underlying25 hi hz0 hz1 hz2 rfl (by decide) rfl (.tmp 91) (.tmp 104) rfl W2.heap.size (.slice (some ⟨E0, 0, none⟩) 0 0) 0 [] (by rfl) HO.out (.slice wa kk wq) kk (enCells (ms'.take kk)) (by rfl) (HSR.out.below HB.out) (enCells_one _) (by unfold maxLen; omega) (by omega) HB.out.size ?_
                  intro x1 v2 hown hgr
                  have hB : Below W2.heap.size W2 v2 := HB.out.grown hgr HB.out.size (fun k e => (HO.out.lt k e).1)
                  refine hK.out _ _ (HS2.out.below hB) (fun hHeld2 => ?_)
                  clear hK K hHeld
                  have hHeld := hHeld2
                  clear hHeld2
                  try simp only [Act.put, List.setIfInBounds_toArray, List.set_cons_zero, List.set_cons_succ]
                  have HA := Lib.hid (show v2.ownsRow W2.heap.size 46 7 x1 kk (enCells (ms'.take kk)) from by simpa using hown)
                  have HB2 := Lib.hid hB
                  clear HB hB hown
                  have HB := HB2
                  clear HB2
                  clear hgr
                  refine goes_ready (rs := [19]) (by kernel_rfl) (by simp) ?_
                  refine GoesEach.cons (o := { dst := some 110, op := Go.Op.buildSlice 25 1 #[(0, Go.Operand.tmp 109)], type := 25, pos := "law.go:59", after := #[{ on := 18, ground := Go.Ground.data }], guard := none }) rfl (fun K hK => ?_) GoesEach.nil
                  rw [if_pos (by kernel_rfl)]
                  refine wp_bs1R (.tmp 109) ?ho2 Try.underlying25 hi hz0 hz1 rfl (by decide) (by decide) #[.int .i64 e.t, .int .i64 e.x, .int .i64 e.c.e, .int .i64 e.c.b, .int .i64 e.c.k, .slice e.a1 e.c.M.length e.q1, .slice e.a2 e.c.C.length e.q2] ?hx2 rfl ?hr2
                  case ho2 => rfl
                  case hx2 => rfl
                  have hB := (HB.out.alloc HB.out.size (.cells #[.int .i64 e.t, .int .i64 e.x, .int .i64 e.c.e, .int .i64 e.c.b, .int .i64 e.c.k, .slice e.a1 e.c.M.length e.q1, .slice e.a2 e.c.C.length e.q2] 46))
                  have hLt : SR (v2.alloc (.cells #[.int .i64 e.t, .int .i64 e.x, .int .i64 e.c.e, .int .i64 e.c.b, .int .i64 e.c.k, .slice e.a1 e.c.M.length e.q1, .slice e.a2 e.c.C.length e.q2] 46)) (.slice (some ⟨v2.heap.size, 0, none⟩) 1 1) 7 1 (enCells [e]) := SR.lit v2 _ #[.int .i64 e.t, .int .i64 e.x, .int .i64 e.c.e, .int .i64 e.c.b, .int .i64 e.c.k, .slice e.a1 e.c.M.length e.q1, .slice e.a2 e.c.C.length e.q2] 7 1 (by decide) rfl
                  have hlt19 : v2.heap.size < (v2.alloc (.cells #[.int .i64 e.t, .int .i64 e.x, .int .i64 e.c.e, .int .i64 e.c.b, .int .i64 e.c.k, .slice e.a1 e.c.M.length e.q1, .slice e.a2 e.c.C.length e.q2] 46)).heap.size := by simp
                  have hA := owns_below HA.out ((Below.refl v2.heap.size v2).alloc (Nat.le_refl _) (.cells #[.int .i64 e.t, .int .i64 e.x, .int .i64 e.c.e, .int .i64 e.c.b, .int .i64 e.c.k, .slice e.a1 e.c.M.length e.q1, .slice e.a2 e.c.C.length e.q2] 46))
                  refine hK.out _ _ (HS2.out.below hB) (fun hHeld2 => ?_)
                  clear hK K hHeld
                  have hHeld := hHeld2
                  clear hHeld2
                  try simp only [Act.put, List.setIfInBounds_toArray, List.set_cons_zero, List.set_cons_succ]
                  generalize v2.alloc (.cells #[.int .i64 e.t, .int .i64 e.x, .int .i64 e.c.e, .int .i64 e.c.b, .int .i64 e.c.k, .slice e.a1 e.c.M.length e.q1, .slice e.a2 e.c.C.length e.q2] 46) = v3 at *
                  have HB2 := Lib.hid hB
                  clear HB hB
                  have HB := HB2
                  clear HB2
                  obtain ⟨F0, hF0⟩ : ∃ F0, v2.heap.size = F0 := ⟨_, rfl⟩
                  rw [hF0] at hLt hlt19 ⊢
                  have HLt := Lib.hid (And.intro hLt hlt19)
                  clear hLt hlt19
                  have HA2 := Lib.hid hA
                  clear HA hA
                  have HA := HA2
                  clear HA2
                  refine goes_ready (rs := [20]) (by kernel_rfl) (by simp) ?_
                  refine GoesEach.cons (o := { dst := some 111, op := Go.Op.call { callee := Go.Callee.builtin Go.Builtin.append, args := #[Go.Operand.tmp 105, Go.Operand.tmp 110], argTypes := #[25, 25] }, type := 25, pos := "law.go:59", after := #[{ on := 14, ground := Go.Ground.data }, { on := 19, ground := Go.Ground.data }, { on := 14, ground := Go.Ground.chain }], guard := none }) rfl (fun K hK => ?_) GoesEach.nil
                  refine step_app Try.underlying25 hi hz0 hz1 hz2 rfl (by decide) rfl (.tmp 105) (.tmp 110) rfl W2.heap.size x1 kk (enCells (ms'.take kk)) (by rfl) HA.out (.slice (some ⟨F0, 0, none⟩) 1 1) 1 (enCells [e]) (by rfl) HLt.out.1 (enCells_one _) (by unfold maxLen; omega) (by omega) HB.out.size ?_
                  intro x2 v4 hown hgr
                  have hB : Below W2.heap.size W2 v4 := HB.out.grown hgr HB.out.size (fun k e => (HA.out.lt k e).1)
                  refine hK.out _ _ (HS2.out.below hB) (fun hHeld2 => ?_)
                  clear hK K hHeld
                  have hHeld := hHeld2
                  clear hHeld2
                  try simp only [Act.put, List.setIfInBounds_toArray, List.set_cons_zero, List.set_cons_succ]
                  have HF := Lib.hid (And.intro hown hB)
                  clear hown hgr HB hB
                  refine goes_take (i := 21) (oi := { dst := some 112, op := Go.Op.fieldAddr 27 (Go.Operand.tmp 4) 2, type := 0, pos := "law.go:59", after := #[{ on := 0, ground := Go.Ground.phase }, { on := 1, ground := Go.Ground.phase }, { on := 2, ground := Go.Ground.phase }, { on := 3, ground := Go.Ground.phase }, { on := 4, ground := Go.Ground.phase }, { on := 5, ground := Go.Ground.phase }, { on := 6, ground := Go.Ground.phase }, { on := 7, ground := Go.Ground.phase }, { on := 8, ground := Go.Ground.phase }, { on := 9, ground := Go.Ground.phase }, { on := 10, ground := Go.Ground.phase }, { on := 11, ground := Go.Ground.phase }, { on := 12, ground := Go.Ground.phase }, { on := 13, ground := Go.Ground.phase }, { on := 14, ground := Go.Ground.phase }, { on := 15, ground := Go.Ground.phase }, { on := 16, ground := Go.Ground.phase }, { on := 17, ground := Go.Ground.phase }, { on := 18, ground := Go.Ground.phase }, { on := 19, ground := Go.Ground.phase }, { on := 20, ground := Go.Ground.phase }], guard := none }) (v := ?vg3_21) rfl (by kernel_rfl) (by kernel_rfl) (by kernel_rfl) (fun _ _ _ h => h) (Or.inl ⟨by rfl, ?yg3_21⟩) (by assumption) ?rg3_21
                  case yg3_21 => (intro w hSw; obtain ⟨s1, s2, s3⟩ := hSw; go_simp; try with_reducible rfl)
                  try simp only [Act.put, List.setIfInBounds_toArray, List.set_cons_zero, List.set_cons_succ]
                  refine goes_ready (rs := [22]) (by kernel_rfl) (by simp) ?_
                  refine GoesEach.last (o := { dst := none, op := Go.Op.store 25 (Go.Operand.tmp 112) (Go.Operand.tmp 111), type := 0, pos := "law.go:59", after := #[{ on := 21, ground := Go.Ground.data }, { on := 20, ground := Go.Ground.data }, { on := 20, ground := Go.Ground.chain }, { on := 0, ground := Go.Ground.phase }, { on := 1, ground := Go.Ground.phase }, { on := 2, ground := Go.Ground.phase }, { on := 3, ground := Go.Ground.phase }, { on := 4, ground := Go.Ground.phase }, { on := 5, ground := Go.Ground.phase }, { on := 6, ground := Go.Ground.phase }, { on := 7, ground := Go.Ground.phase }, { on := 8, ground := Go.Ground.phase }, { on := 9, ground := Go.Ground.phase }, { on := 10, ground := Go.Ground.phase }, { on := 11, ground := Go.Ground.phase }, { on := 12, ground := Go.Ground.phase }, { on := 13, ground := Go.Ground.phase }, { on := 14, ground := Go.Ground.phase }, { on := 15, ground := Go.Ground.phase }, { on := 16, ground := Go.Ground.phase }, { on := 17, ground := Go.Ground.phase }, { on := 18, ground := Go.Ground.phase }, { on := 19, ground := Go.Ground.phase }, { on := 20, ground := Go.Ground.phase }], guard := none }) rfl (by kernel_rfl) (fun K hK => ?_)
                  obtain ⟨xa, xc, rfl⟩ := owns_form3 HF.out.1
                  have hz := below_at HF.out.2 hxl H3.out.1
                  have z2 := cell_atD hz 2 (v := .slice wa L wq) rfl
                  have zf : v4.frozen? ⟨X, 2, none⟩ = false := by simp [World.frozen?, hz]
                  have HM2 := Lib.hid (HLEAF.out _ _ HF.out.1 HF.out.2)
                  rw [if_pos (by kernel_rfl)]
                  go_simp
                  refine hK.out _ _ ?_
                  clear hK K z2 zf hz hHeld
                  try simp only [Act.put, List.setIfInBounds_toArray, List.set_cons_zero, List.set_cons_succ]
                  refine goes_done (by kernel_rfl) ?_ _
                  go_wp2_with fail
                  go_roundw
                  case rel => exact ⟨j + 1, K, by omega, rfl, by go_num, HM2⟩
                  case measure => simp [intOf]; omega
                · rw [if_pos (by kernel_rfl)]
                  refine wp_bs1R (.tmp 109) ?ho4 Try.underlying25 hi hz0 hz1 rfl (by decide) (by decide) #[.int .i64 e.t, .int .i64 e.x, .int .i64 e.c.e, .int .i64 e.c.b, .int .i64 e.c.k, .slice e.a1 e.c.M.length e.q1, .slice e.a2 e.c.C.length e.q2] ?hx4 rfl ?hr4
                  case ho4 => rfl
                  case hx4 => rfl
                  have hB := (HB.out.alloc HB.out.size (.cells #[.int .i64 e.t, .int .i64 e.x, .int .i64 e.c.e, .int .i64 e.c.b, .int .i64 e.c.k, .slice e.a1 e.c.M.length e.q1, .slice e.a2 e.c.C.length e.q2] 46))
                  have hLt : SR (v1.alloc (.cells #[.int .i64 e.t, .int .i64 e.x, .int .i64 e.c.e, .int .i64 e.c.b, .int .i64 e.c.k, .slice e.a1 e.c.M.length e.q1, .slice e.a2 e.c.C.length e.q2] 46)) (.slice (some ⟨v1.heap.size, 0, none⟩) 1 1) 7 1 (enCells [e]) := SR.lit v1 _ #[.int .i64 e.t, .int .i64 e.x, .int .i64 e.c.e, .int .i64 e.c.b, .int .i64 e.c.k, .slice e.a1 e.c.M.length e.q1, .slice e.a2 e.c.C.length e.q2] 7 1 (by decide) rfl
                  have hlt19 : v1.heap.size < (v1.alloc (.cells #[.int .i64 e.t, .int .i64 e.x, .int .i64 e.c.e, .int .i64 e.c.b, .int .i64 e.c.k, .slice e.a1 e.c.M.length e.q1, .slice e.a2 e.c.C.length e.q2] 46)).heap.size := by simp
                  have hO := owns_below HO.out ((Below.refl v1.heap.size v1).alloc (Nat.le_refl _) (.cells #[.int .i64 e.t, .int .i64 e.x, .int .i64 e.c.e, .int .i64 e.c.b, .int .i64 e.c.k, .slice e.a1 e.c.M.length e.q1, .slice e.a2 e.c.C.length e.q2] 46))
                  have hne : ∀ b, (Value.slice (some ⟨v1.heap.size, 0, none⟩) 1 1).ownBlock = some b → (Value.slice (some ⟨E0, 0, none⟩) 0 0).ownBlock ≠ some b := fun b h1 h2 => by have e1 := Option.some.inj h1; simp only at e1; have := (HO.out.lt _ h2).2; omega
                  refine hK.out _ _ (HS2.out.below hB) (fun hHeld2 => ?_)
                  clear hK K hHeld
                  have hHeld := hHeld2
                  clear hHeld2
                  try simp only [Act.put, List.setIfInBounds_toArray, List.set_cons_zero, List.set_cons_succ]
                  generalize v1.alloc (.cells #[.int .i64 e.t, .int .i64 e.x, .int .i64 e.c.e, .int .i64 e.c.b, .int .i64 e.c.k, .slice e.a1 e.c.M.length e.q1, .slice e.a2 e.c.C.length e.q2] 46) = v2 at *
                  have HB2 := Lib.hid hB
                  clear HB hB
                  have HB := HB2
                  clear HB2
                  obtain ⟨F0, hF0⟩ : ∃ F0, v1.heap.size = F0 := ⟨_, rfl⟩
                  rw [hF0] at hLt hlt19 hne ⊢
                  have HLt := Lib.hid (And.intro hLt hlt19)
                  clear hLt hlt19
                  have HO2 := Lib.hid hO
                  have HNE := Lib.hid hne
                  clear HO hO hne
                  have HO := HO2
                  clear HO2
                  refine goes_ready (rs := [14]) (by kernel_rfl) (by simp) ?_
                  refine GoesEach.cons (o := { dst := some 105, op := Go.Op.call { callee := Go.Callee.builtin Go.Builtin.append, args := #[Go.Operand.tmp 91, Go.Operand.tmp 104], argTypes := #[25, 25] }, type := 25, pos := "law.go:59", after := #[{ on := 0, ground := Go.Ground.data }, { on := 13, ground := Go.Ground.data }], guard := none }) rfl (fun K hK => ?_) GoesEach.nil
                  refine step_app Try.underlying25 hi hz0 hz1 hz2 rfl (by decide) rfl (.tmp 91) (.tmp 104) rfl W2.heap.size (.slice (some ⟨E0, 0, none⟩) 0 0) 0 [] (by rfl) HO.out (.slice wa kk wq) kk (enCells (ms'.take kk)) (by rfl) (HSR.out.below HB.out) (enCells_one _) (by unfold maxLen; omega) (by omega) HB.out.size ?_
                  intro x1 v3 hown hgr
                  have hB : Below W2.heap.size W2 v3 := HB.out.grown hgr HB.out.size (fun k e => (HO.out.lt k e).1)
                  have hLt := sr_grown HLt.out.1 hgr (fun b hb => HNE.out b hb)
                  have hlt19 := Nat.lt_of_lt_of_le HLt.out.2 hgr.size
                  refine hK.out _ _ (HS2.out.below hB) (fun hHeld2 => ?_)
                  clear hK K hHeld
                  have hHeld := hHeld2
                  clear hHeld2
                  try simp only [Act.put, List.setIfInBounds_toArray, List.set_cons_zero, List.set_cons_succ]
                  have HA := Lib.hid (show v3.ownsRow W2.heap.size 46 7 x1 kk (enCells (ms'.take kk)) from by simpa using hown)
                  have HB2 := Lib.hid hB
                  clear HB hB hown
                  have HB := HB2
                  clear HB2
                  have HLt2 := Lib.hid (And.intro hLt hlt19)
                  clear HLt hLt hlt19
                  have HLt := HLt2
                  clear HLt2
                  clear hgr
                  refine goes_ready (rs := [20]) (by kernel_rfl) (by simp) ?_
                  refine GoesEach.cons (o := { dst := some 111, op := Go.Op.call { callee := Go.Callee.builtin Go.Builtin.append, args := #[Go.Operand.tmp 105, Go.Operand.tmp 110], argTypes := #[25, 25] }, type := 25, pos := "law.go:59", after := #[{ on := 14, ground := Go.Ground.data }, { on := 19, ground := Go.Ground.data }, { on := 14, ground := Go.Ground.chain }], guard := none }) rfl (fun K hK => ?_) GoesEach.nil
                  refine step_app Try.underlying25 hi hz0 hz1 hz2 rfl (by decide) rfl (.tmp 105) (.tmp 110) rfl W2.heap.size x1 kk (enCells (ms'.take kk)) (by rfl) HA.out (.slice (some ⟨F0, 0, none⟩) 1 1) 1 (enCells [e]) (by rfl) HLt.out.1 (enCells_one _) (by unfold maxLen; omega) (by omega) HB.out.size ?_
                  intro x2 v4 hown hgr
                  have hB : Below W2.heap.size W2 v4 := HB.out.grown hgr HB.out.size (fun k e => (HA.out.lt k e).1)
                  refine hK.out _ _ (HS2.out.below hB) (fun hHeld2 => ?_)
                  clear hK K hHeld
                  have hHeld := hHeld2
                  clear hHeld2
                  try simp only [Act.put, List.setIfInBounds_toArray, List.set_cons_zero, List.set_cons_succ]
                  have HF := Lib.hid (And.intro hown hB)
                  clear hown hgr HB hB
                  refine goes_take (i := 21) (oi := { dst := some 112, op := Go.Op.fieldAddr 27 (Go.Operand.tmp 4) 2, type := 0, pos := "law.go:59", after := #[{ on := 0, ground := Go.Ground.phase }, { on := 1, ground := Go.Ground.phase }, { on := 2, ground := Go.Ground.phase }, { on := 3, ground := Go.Ground.phase }, { on := 4, ground := Go.Ground.phase }, { on := 5, ground := Go.Ground.phase }, { on := 6, ground := Go.Ground.phase }, { on := 7, ground := Go.Ground.phase }, { on := 8, ground := Go.Ground.phase }, { on := 9, ground := Go.Ground.phase }, { on := 10, ground := Go.Ground.phase }, { on := 11, ground := Go.Ground.phase }, { on := 12, ground := Go.Ground.phase }, { on := 13, ground := Go.Ground.phase }, { on := 14, ground := Go.Ground.phase }, { on := 15, ground := Go.Ground.phase }, { on := 16, ground := Go.Ground.phase }, { on := 17, ground := Go.Ground.phase }, { on := 18, ground := Go.Ground.phase }, { on := 19, ground := Go.Ground.phase }, { on := 20, ground := Go.Ground.phase }], guard := none }) (v := ?vg5_21) rfl (by kernel_rfl) (by kernel_rfl) (by kernel_rfl) (fun _ _ _ h => h) (Or.inl ⟨by rfl, ?yg5_21⟩) (by assumption) ?rg5_21
                  case yg5_21 => (intro w hSw; obtain ⟨s1, s2, s3⟩ := hSw; go_simp; try with_reducible rfl)
                  try simp only [Act.put, List.setIfInBounds_toArray, List.set_cons_zero, List.set_cons_succ]
                  refine goes_ready (rs := [22]) (by kernel_rfl) (by simp) ?_
                  refine GoesEach.last (o := { dst := none, op := Go.Op.store 25 (Go.Operand.tmp 112) (Go.Operand.tmp 111), type := 0, pos := "law.go:59", after := #[{ on := 21, ground := Go.Ground.data }, { on := 20, ground := Go.Ground.data }, { on := 20, ground := Go.Ground.chain }, { on := 0, ground := Go.Ground.phase }, { on := 1, ground := Go.Ground.phase }, { on := 2, ground := Go.Ground.phase }, { on := 3, ground := Go.Ground.phase }, { on := 4, ground := Go.Ground.phase }, { on := 5, ground := Go.Ground.phase }, { on := 6, ground := Go.Ground.phase }, { on := 7, ground := Go.Ground.phase }, { on := 8, ground := Go.Ground.phase }, { on := 9, ground := Go.Ground.phase }, { on := 10, ground := Go.Ground.phase }, { on := 11, ground := Go.Ground.phase }, { on := 12, ground := Go.Ground.phase }, { on := 13, ground := Go.Ground.phase }, { on := 14, ground := Go.Ground.phase }, { on := 15, ground := Go.Ground.phase }, { on := 16, ground := Go.Ground.phase }, { on := 17, ground := Go.Ground.phase }, { on := 18, ground := Go.Ground.phase }, { on := 19, ground := Go.Ground.phase }, { on := 20, ground := Go.Ground.phase }], guard := none }) rfl (by kernel_rfl) (fun K hK => ?_)
                  obtain ⟨xa, xc, rfl⟩ := owns_form3 HF.out.1
                  have hz := below_at HF.out.2 hxl H3.out.1
                  have z2 := cell_atD hz 2 (v := .slice wa L wq) rfl
                  have zf : v4.frozen? ⟨X, 2, none⟩ = false := by simp [World.frozen?, hz]
                  have HM2 := Lib.hid (HLEAF.out _ _ HF.out.1 HF.out.2)
                  rw [if_pos (by kernel_rfl)]
                  go_simp
                  refine hK.out _ _ ?_
                  clear hK K z2 zf hz hHeld
                  try simp only [Act.put, List.setIfInBounds_toArray, List.set_cons_zero, List.set_cons_succ]
                  refine goes_done (by kernel_rfl) ?_ _
                  go_wp2_with fail
                  go_roundw
                  case rel => exact ⟨j + 1, K, by omega, rfl, by go_num, HM2⟩
                  case measure => simp [intOf]; omega
              · rw [if_pos (by kernel_rfl)]
                refine wp_bs1R (.tmp 109) ?ho6 Try.underlying25 hi hz0 hz1 rfl (by decide) (by decide) #[.int .i64 e.t, .int .i64 e.x, .int .i64 e.c.e, .int .i64 e.c.b, .int .i64 e.c.k, .slice e.a1 e.c.M.length e.q1, .slice e.a2 e.c.C.length e.q2] ?hx6 rfl ?hr6
                case ho6 => rfl
                case hx6 => rfl
                have hB := (HB.out.alloc HB.out.size (.cells #[.int .i64 e.t, .int .i64 e.x, .int .i64 e.c.e, .int .i64 e.c.b, .int .i64 e.c.k, .slice e.a1 e.c.M.length e.q1, .slice e.a2 e.c.C.length e.q2] 46))
                have hLt : SR (v0.alloc (.cells #[.int .i64 e.t, .int .i64 e.x, .int .i64 e.c.e, .int .i64 e.c.b, .int .i64 e.c.k, .slice e.a1 e.c.M.length e.q1, .slice e.a2 e.c.C.length e.q2] 46)) (.slice (some ⟨v0.heap.size, 0, none⟩) 1 1) 7 1 (enCells [e]) := SR.lit v0 _ #[.int .i64 e.t, .int .i64 e.x, .int .i64 e.c.e, .int .i64 e.c.b, .int .i64 e.c.k, .slice e.a1 e.c.M.length e.q1, .slice e.a2 e.c.C.length e.q2] 7 1 (by decide) rfl
                have hlt19 : v0.heap.size < (v0.alloc (.cells #[.int .i64 e.t, .int .i64 e.x, .int .i64 e.c.e, .int .i64 e.c.b, .int .i64 e.c.k, .slice e.a1 e.c.M.length e.q1, .slice e.a2 e.c.C.length e.q2] 46)).heap.size := by simp
                refine hK.out _ _ (HS2.out.below hB) (fun hHeld2 => ?_)
                clear hK K hHeld
                have hHeld := hHeld2
                clear hHeld2
                try simp only [Act.put, List.setIfInBounds_toArray, List.set_cons_zero, List.set_cons_succ]
                generalize v0.alloc (.cells #[.int .i64 e.t, .int .i64 e.x, .int .i64 e.c.e, .int .i64 e.c.b, .int .i64 e.c.k, .slice e.a1 e.c.M.length e.q1, .slice e.a2 e.c.C.length e.q2] 46) = v1 at *
                have HB2 := Lib.hid hB
                clear HB hB
                have HB := HB2
                clear HB2
                obtain ⟨F0, hF0⟩ : ∃ F0, v0.heap.size = F0 := ⟨_, rfl⟩
                rw [hF0] at hLt hlt19 ⊢
                have HLt := Lib.hid (And.intro hLt hlt19)
                clear hLt hlt19
                refine goes_ready (rs := [0]) (by kernel_rfl) (by simp) ?_
                refine GoesEach.cons (o := { dst := some 91, op := Go.Op.buildSlice 25 0 #[], type := 25, pos := "law.go:59", after := #[], guard := none }) rfl (fun K hK => ?_) GoesEach.nil
                rw [if_pos (by kernel_rfl)]
                refine wp_bs0R ?ho7 Try.underlying25 hi ?hr7
                case ho7 => rfl
                have hB := (HB.out.alloc HB.out.size (.cells #[] 46))
                have hO : (v1.alloc (.cells #[] 46)).ownsRow W2.heap.size 46 7 (.slice (some ⟨v1.heap.size, 0, none⟩) 0 0) 0 [] := World.ownsRow_lit (base := W2.heap.size) v1 #[] 0 HB.out.size (by decide) rfl
                have hlt0 : F0 < (v1.alloc (.cells #[] 46)).heap.size := by have := HLt.out.2; simp; omega
                have hLt := HLt.out.1.below ((Below.refl v1.heap.size v1).alloc (Nat.le_refl _) (.cells #[] 46))
                have hne : ∀ b, (Value.slice (some ⟨F0, 0, none⟩) 1 1).ownBlock = some b → (Value.slice (some ⟨v1.heap.size, 0, none⟩) 0 0).ownBlock ≠ some b := fun b h1 h2 => by have e1 := Option.some.inj h1; have e2 := Option.some.inj h2; have := HLt.out.2; simp only at e1 e2; omega
                refine hK.out _ _ (HS2.out.below hB) (fun hHeld2 => ?_)
                clear hK K hHeld
                have hHeld := hHeld2
                clear hHeld2
                try simp only [Act.put, List.setIfInBounds_toArray, List.set_cons_zero, List.set_cons_succ]
                generalize v1.alloc (.cells #[] 46) = v2 at *
                obtain ⟨E0, hE0⟩ : ∃ E0, v1.heap.size = E0 := ⟨_, rfl⟩
                rw [hE0] at hO hne ⊢
                have HB2 := Lib.hid hB
                have HO := Lib.hid hO
                clear HB hB hO
                have HB := HB2
                clear HB2
                have HLt2 := Lib.hid (And.intro hLt hlt0)
                have HNE := Lib.hid hne
                clear HLt hLt hne hlt0
                have HLt := HLt2
                clear HLt2
                refine goes_ready (rs := [14]) (by kernel_rfl) (by simp) ?_
                refine GoesEach.cons (o := { dst := some 105, op := Go.Op.call { callee := Go.Callee.builtin Go.Builtin.append, args := #[Go.Operand.tmp 91, Go.Operand.tmp 104], argTypes := #[25, 25] }, type := 25, pos := "law.go:59", after := #[{ on := 0, ground := Go.Ground.data }, { on := 13, ground := Go.Ground.data }], guard := none }) rfl (fun K hK => ?_) GoesEach.nil
                refine step_app Try.underlying25 hi hz0 hz1 hz2 rfl (by decide) rfl (.tmp 91) (.tmp 104) rfl W2.heap.size (.slice (some ⟨E0, 0, none⟩) 0 0) 0 [] (by rfl) HO.out (.slice wa kk wq) kk (enCells (ms'.take kk)) (by rfl) (HSR.out.below HB.out) (enCells_one _) (by unfold maxLen; omega) (by omega) HB.out.size ?_
                intro x1 v3 hown hgr
                have hB : Below W2.heap.size W2 v3 := HB.out.grown hgr HB.out.size (fun k e => (HO.out.lt k e).1)
                have hLt := sr_grown HLt.out.1 hgr (fun b hb => HNE.out b hb)
                have hlt19 := Nat.lt_of_lt_of_le HLt.out.2 hgr.size
                refine hK.out _ _ (HS2.out.below hB) (fun hHeld2 => ?_)
                clear hK K hHeld
                have hHeld := hHeld2
                clear hHeld2
                try simp only [Act.put, List.setIfInBounds_toArray, List.set_cons_zero, List.set_cons_succ]
                have HA := Lib.hid (show v3.ownsRow W2.heap.size 46 7 x1 kk (enCells (ms'.take kk)) from by simpa using hown)
                have HB2 := Lib.hid hB
                clear HB hB hown
                have HB := HB2
                clear HB2
                have HLt2 := Lib.hid (And.intro hLt hlt19)
                clear HLt hLt hlt19
                have HLt := HLt2
                clear HLt2
                clear hgr
                refine goes_ready (rs := [20]) (by kernel_rfl) (by simp) ?_
                refine GoesEach.cons (o := { dst := some 111, op := Go.Op.call { callee := Go.Callee.builtin Go.Builtin.append, args := #[Go.Operand.tmp 105, Go.Operand.tmp 110], argTypes := #[25, 25] }, type := 25, pos := "law.go:59", after := #[{ on := 14, ground := Go.Ground.data }, { on := 19, ground := Go.Ground.data }, { on := 14, ground := Go.Ground.chain }], guard := none }) rfl (fun K hK => ?_) GoesEach.nil
                refine step_app Try.underlying25 hi hz0 hz1 hz2 rfl (by decide) rfl (.tmp 105) (.tmp 110) rfl W2.heap.size x1 kk (enCells (ms'.take kk)) (by rfl) HA.out (.slice (some ⟨F0, 0, none⟩) 1 1) 1 (enCells [e]) (by rfl) HLt.out.1 (enCells_one _) (by unfold maxLen; omega) (by omega) HB.out.size ?_
                intro x2 v4 hown hgr
                have hB : Below W2.heap.size W2 v4 := HB.out.grown hgr HB.out.size (fun k e => (HA.out.lt k e).1)
                refine hK.out _ _ (HS2.out.below hB) (fun hHeld2 => ?_)
                clear hK K hHeld
                have hHeld := hHeld2
                clear hHeld2
                try simp only [Act.put, List.setIfInBounds_toArray, List.set_cons_zero, List.set_cons_succ]
                have HF := Lib.hid (And.intro hown hB)
                clear hown hgr HB hB
                refine goes_take (i := 21) (oi := { dst := some 112, op := Go.Op.fieldAddr 27 (Go.Operand.tmp 4) 2, type := 0, pos := "law.go:59", after := #[{ on := 0, ground := Go.Ground.phase }, { on := 1, ground := Go.Ground.phase }, { on := 2, ground := Go.Ground.phase }, { on := 3, ground := Go.Ground.phase }, { on := 4, ground := Go.Ground.phase }, { on := 5, ground := Go.Ground.phase }, { on := 6, ground := Go.Ground.phase }, { on := 7, ground := Go.Ground.phase }, { on := 8, ground := Go.Ground.phase }, { on := 9, ground := Go.Ground.phase }, { on := 10, ground := Go.Ground.phase }, { on := 11, ground := Go.Ground.phase }, { on := 12, ground := Go.Ground.phase }, { on := 13, ground := Go.Ground.phase }, { on := 14, ground := Go.Ground.phase }, { on := 15, ground := Go.Ground.phase }, { on := 16, ground := Go.Ground.phase }, { on := 17, ground := Go.Ground.phase }, { on := 18, ground := Go.Ground.phase }, { on := 19, ground := Go.Ground.phase }, { on := 20, ground := Go.Ground.phase }], guard := none }) (v := ?vg8_21) rfl (by kernel_rfl) (by kernel_rfl) (by kernel_rfl) (fun _ _ _ h => h) (Or.inl ⟨by rfl, ?yg8_21⟩) (by assumption) ?rg8_21
                case yg8_21 => (intro w hSw; obtain ⟨s1, s2, s3⟩ := hSw; go_simp; try with_reducible rfl)
                try simp only [Act.put, List.setIfInBounds_toArray, List.set_cons_zero, List.set_cons_succ]
                refine goes_ready (rs := [22]) (by kernel_rfl) (by simp) ?_
                refine GoesEach.last (o := { dst := none, op := Go.Op.store 25 (Go.Operand.tmp 112) (Go.Operand.tmp 111), type := 0, pos := "law.go:59", after := #[{ on := 21, ground := Go.Ground.data }, { on := 20, ground := Go.Ground.data }, { on := 20, ground := Go.Ground.chain }, { on := 0, ground := Go.Ground.phase }, { on := 1, ground := Go.Ground.phase }, { on := 2, ground := Go.Ground.phase }, { on := 3, ground := Go.Ground.phase }, { on := 4, ground := Go.Ground.phase }, { on := 5, ground := Go.Ground.phase }, { on := 6, ground := Go.Ground.phase }, { on := 7, ground := Go.Ground.phase }, { on := 8, ground := Go.Ground.phase }, { on := 9, ground := Go.Ground.phase }, { on := 10, ground := Go.Ground.phase }, { on := 11, ground := Go.Ground.phase }, { on := 12, ground := Go.Ground.phase }, { on := 13, ground := Go.Ground.phase }, { on := 14, ground := Go.Ground.phase }, { on := 15, ground := Go.Ground.phase }, { on := 16, ground := Go.Ground.phase }, { on := 17, ground := Go.Ground.phase }, { on := 18, ground := Go.Ground.phase }, { on := 19, ground := Go.Ground.phase }, { on := 20, ground := Go.Ground.phase }], guard := none }) rfl (by kernel_rfl) (fun K hK => ?_)
                obtain ⟨xa, xc, rfl⟩ := owns_form3 HF.out.1
                have hz := below_at HF.out.2 hxl H3.out.1
                have z2 := cell_atD hz 2 (v := .slice wa L wq) rfl
                have zf : v4.frozen? ⟨X, 2, none⟩ = false := by simp [World.frozen?, hz]
                have HM2 := Lib.hid (HLEAF.out _ _ HF.out.1 HF.out.2)
                rw [if_pos (by kernel_rfl)]
                go_simp
                refine hK.out _ _ ?_
                clear hK K z2 zf hz hHeld
                try simp only [Act.put, List.setIfInBounds_toArray, List.set_cons_zero, List.set_cons_succ]
                refine goes_done (by kernel_rfl) ?_ _
                go_wp2_with fail
                go_roundw
                case rel => exact ⟨j + 1, K, by omega, rfl, by go_num, HM2⟩
                case measure => simp [intOf]; omega
        · obtain rfl : j = n := by omega
          obtain ⟨v', ms', q1, q2, q3, q4, q5, q6, q7⟩ := HR.out
          obtain ⟨wa, wq, rfl, p1, p2, p3⟩ := q3
          have hEl : Elts wr EN.cells 7 (.slice wa ms'.length wq) ms' := ⟨wa, wq, rfl, p1, p2, p3⟩
          have hE := HEND.out wr (by rw [← hX]; exact q7) q2 wa ms'.length wq
          have hEl2 : Elts (((wr.setCell ⟨X + 1, 0, none⟩ (.int .i64 B)).setCell ⟨X + 1, 1, none⟩ (.int .i64 T)).setCell ⟨X + 1, 2, none⟩ (.slice wa ms'.length wq)) EN.cells 7 (.slice wa ms'.length wq) ms' := by
            refine elts_away hEl (by simp) fun hz b hb => ?_
            have hbn : b ≠ X + 1 := by
              rcases q6 with q | q
              · injection q with qa ql qc
                subst qa ql
                intro e
                obtain ⟨va9, vc9, e1, h91, h92, h3⟩ := HV.out
                injection e1 with e1 e91 e92
                subst e1
                rcases h3 with h3 | ⟨b2, o2, e2, hb2, -⟩
                · exact hz (by rw [← HN.out.2]; exact h3)
                · rw [e2] at hb
                  have e3 := Option.some.inj hb
                  simp only at e3
                  omega
              · exact Nat.ne_of_gt (q b hb)
            rw [heap_setCell_other _ _ _ _ hbn, heap_setCell_other _ _ _ _ hbn, heap_setCell_other _ _ _ _ hbn]
          have e0 := cell_atD hE.1 0 (v := .int .i64 B) rfl
          have e1 := cell_atD hE.1 1 (v := .int .i64 T) rfl
          have e2 := cell_atD hE.1 2 (v := .slice wa ms'.length wq) rfl
          have x0 := cell_atD q1 0 (v := .int .i64 B) rfl
          have x1 := cell_atD q1 1 (v := .int .i64 T) rfl
          have x2 := cell_atD q1 2 (v := .slice wa ms'.length wq) rfl
          have y0 := cell_atD q2 0 (v := .int .i64 0) rfl
          have y1 := cell_atD q2 1 (v := .int .i64 0) rfl
          have y2 := cell_atD q2 2 (v := .slice none 0 0) rfl
          have fy : ∀ j, wr.frozen? ⟨X + 1, j, none⟩ = false := fun j => by simp [World.frozen?, q2]
          have hkey : ms'.map EN.k = goK (ms.map EN.k) (startG B at_ es).1 ((startG B at_ es).2.map EN.k) := by
            rw [q4, HST'.out, List.take_of_length_le (by rw [List.length_drop, HN.out.1]; omega)]
          have hto : toG B at_ es = at_ + j := by
            unfold toG
            rw [HST'.out]
            have := HAT.out
            simp only [List.length_drop, HN.out.1]
            omega
          have HZ := Lib.hid (And.intro hE (And.intro hEl2 (And.intro hkey (And.intro hto (And.intro q5 q6)))))
          clear hE hEl2 hkey hto q1 q2 q4 q5 q6 q7 p1 p2 p3 hEl HR
          go_wp2_with fail
          refine bodyPost_ret (v := .tuple #[.agg #[.int .i64 B, .int .i64 T, .slice wa ms'.length wq], .int .i64 (at_ + j), .bool true]) (by simp [results, Try.results9, go_sem, e0, e1, e2]) rfl ?_
          refine ⟨_, ms', ?_, HZ.out.2.1, ?_, HZ.out.2.2.2.2.1, ?_, ?_⟩
          · (try rw [if_pos rfl]); rw [HZ.out.2.2.2.1]
          · (try rw [if_pos rfl]); exact HZ.out.2.2.1
          · exact HZ.out.2.2.2.2.2.imp id fun q b hb => by have := q b hb; omega
          · first | exact HZ.out.1.2 | (rw [hX]; exact HZ.out.1.2)
  · have c5 : B ≤ at_ := by omega
    have hSt : S = t := Classical.not_not.1 fun h => c3 ⟨c5, h⟩
    subst hSt
    obtain ⟨k0, hk0⟩ : ∃ k0 : Nat, at_ = B + k0 := ⟨(at_ - B).toNat, by omega⟩
    have hst : startG B at_ es = (k0, es.drop 0) := by unfold startG; rw [if_neg c4, show (at_ - B).toNat = k0 by omega]; rfl
    have HST := Lib.hid hst
    have hk0m : k0 ≤ m := by omega
    have HK0 := Lib.hid hk0
    have cmm := cm w1 (by rw [hX]; exact H1.out.2.2)
    clear hst hk0 c3
    go_wp2_with fail
    refine Calls.mono cmm ?_
    rintro ev w2 ⟨rfl, hb2⟩
    have hx2 := below_at hb2 (lt_heap H1.out.1) H1.out.1
    have hy2 := below_at hb2 (lt_heap H1.out.2.1) H1.out.2.1
    have hB2 := H1.out.2.2.trans (hb2.mono (by have := H1.out.2.2.size; rw [hX] at this; exact this))
    clear x0 x1 x2 y0 y1 y2 fy cmm
    have x0 := cell_atD hx2 0 (v := .int .i64 B) rfl
    have x1 := cell_atD hx2 1 (v := .int .i64 T) rfl
    have x2 := cell_atD hx2 2 (v := .slice va m vc) rfl
    clear hb2
    have HW := Lib.hid (And.intro hx2 (And.intro hy2 hB2))
    obtain ⟨d, hdz⟩ : ∃ d : Nat, d = 0 := ⟨0, rfl⟩
    have HAT := Lib.hid (show at_ = B + (k0 : Int) - d by have := HK0.out; omega)
    have HST' := Lib.hid (show startG B at_ es = (k0, es.drop d) by rw [hdz]; exact HST.out)
    have hdn : d ≤ n := by omega
    have HKD := Lib.hid (show d = 0 ∨ k0 = 0 from .inl hdz)
    clear hx2 hy2 hB2 hdz HK0 HS
    go_upto_region 5 with fail
    go_wp2_with fail
    go_loopw [11, 12] (fun kv iv wr => ∃ (j : Nat) (K : Int), j ≤ n ∧ kv = .int .i64 K ∧ iv = .int .i64 j ∧ Hid (MRel B T (ms.map EN.k) k0 d ms es (.slice va m vc) w X j wr)) (fun _ iv _ => n - (intOf iv).toNat)
    case atStart => exact ⟨0, _, Nat.zero_le _, rfl, rfl, Lib.hid ⟨_, ms, HW.out.1, HW.out.2.1, HV.out.below (by rw [hX]; exact HW.out.2.2), by simp [goK], fun e he => .inl he, .inl rfl, by rw [hX]; exact HW.out.2.2⟩⟩
    case round =>
      obtain ⟨j, K0, hj, rfl, rfl, HR⟩ := hrel
      by_cases hlt : j < n
      · obtain ⟨v', ms', q1, q2, q3, q4, q5, q6, q7⟩ := HR.out
        obtain ⟨wa, wq, rfl, p1, p2, p3⟩ := q3
        obtain ⟨L, hL⟩ : ∃ L, ms'.length = L := ⟨_, rfl⟩
        have hEl : Elts wr EN.cells 7 (.slice wa L wq) ms' := ⟨wa, wq, by rw [hL], p1, p2, p3⟩
        rw [hL] at q1 q6 p1
        have hgl := goK_len (ms.map EN.k) k0 (((es.drop d).take (j - d)).map EN.k) (by rw [List.length_map, HN.out.2]; exact hk0m)
        rw [← q4] at hgl
        simp only [List.length_map, List.length_take, List.length_drop] at hgl
        rw [hL, HN.out.1, HN.out.2, Nat.min_eq_left (by omega)] at hgl
        obtain ⟨e, hej⟩ : ∃ e, es[j]? = some e := ⟨_, List.getElem?_eq_getElem (by rw [HN.out.1]; exact hlt)⟩
        obtain ⟨-, bu, ou, rfl, hbu, hcu⟩ := HU.out.at_ hej
        have hcw : ∀ (k : Nat) (u : Value), e.cells[k]? = some u → wr.cell? ⟨bu, ou + j * 7 + k, none⟩ = some u := fun k u hu => (q7.cell (p := ⟨bu, ou + j * 7 + k, none⟩) hbu).trans (hcu k u hu)
        have hs1 : MS1 X B T (.slice wa L wq) bu (ou + j * 7) e.t wr := ⟨cell_atD q1 0 rfl, cell_atD q1 1 rfl, cell_atD q1 2 rfl, hcw 0 _ rfl⟩
        have HS1 := Lib.hid hs1
        have hstep : ∀ l : List (Int × Int × CF), (d ≤ j → l = layK (ms'.map EN.k) (k0 + (j - d)) e.k) → (j < d → l = ms'.map EN.k) → l = goK (ms.map EN.k) k0 (((es.drop d).take (j + 1 - d)).map EN.k) := fun l h1 h2 => by
          rcases Nat.lt_or_ge j d with h | h
          · rw [h2 h, q4, show j + 1 - d = 0 by omega, show j - d = 0 by omega]
          · have hdj : (es.drop d)[j - d]? = some e := by rw [List.getElem?_drop, show d + (j - d) = j by omega]; exact hej
            rw [h1 h, q4, show j + 1 - d = (j - d) + 1 by omega, List.take_add_one, hdj]
            simp only [Option.toList_some, List.map_append, List.map_cons, List.map_nil]
            rw [goK_snoc, List.length_map, List.length_take, List.length_drop, HN.out.1, Nat.min_eq_left (by omega)]
        have HSTEP := Lib.hid hstep
        have HE := Lib.hid (And.intro hEl (And.intro hL (And.intro q5 (And.intro q6 (And.intro hej hcw)))))
        have HBU := Lib.hid (show bu < X by have := hbu; omega)
        have HQ := Lib.hid (And.intro q1 (And.intro q2 q7))
        have hL2 : L ≤ 300 := by omega
        have hLk : d ≤ j → k0 + (j - d) ≤ L := fun h => by omega
        have HLK := Lib.hid (And.intro hLk (And.intro p1 p2))
        have f0 := hs1.1
        have f2 := hs1.2.2.1
        clear hs1 hstep hEl hL q1 q2 q4 q5 q6 q7 p1 p2 p3 hgl hej hcw hcu hbu hLk
        obtain ⟨K, hK⟩ : ∃ K, at_ + (j : Int) + 1 = K := ⟨_, rfl⟩
        have hKb : -2000000 ≤ K ∧ K ≤ 2000000 := by omega
        have hKK : K - 1 - B = (k0 : Int) + j - d := by have := HAT.out; omega
        go_upto_region 10 with fail
        try rw [hK]
        have HKK := Lib.hid (And.intro hK hKK)
        clear hK hKK
        obtain ⟨stay, hstay⟩ : ∃ stay, (decide (j < d) || (decide (k0 + (j - d) < L) && ((ms'.map EN.t).getD (k0 + (j - d)) 0 == e.t))) = stay := ⟨_, rfl⟩
        have HSTAY := Lib.hid hstay
        clear hstay
        go_cut [90] (fun s wx => s = .bool stay ∧ Below wr.heap.size wr wx)
        case first =>
          have wBL : IntKind.i64.wrap (B + (L : Int)) = B + L := by rw [IntKind.wrap_i64]; omega
          by_cases r1 : j < d
          · have hst : stay = true := by rw [← HSTAY.out, show decide (j < d) = true by simpa using r1]; rfl
            subst hst
            have r2 : decide (K ≤ B) = true := by have := HKK.out.2; have := HKD.out; simp; omega
            have r3 : K ≤ B := by simpa using r2
            refine wp_region_held_drew (S := MS1 X B T (.slice wa L wq) bu (ou + j * 7) e.t) (by kernel_rfl) HS1.out (fun hHeld => ?_)
            refine wpAnyH_take (i := 0) (oi := { dst := some 66, op := Go.Op.move (Go.Operand.tmp 11), type := 3, pos := "law.go:56", after := #[], guard := none }) (v := ?vBa0) rfl (by kernel_rfl) (by kernel_rfl) (by kernel_rfl) (fun _ _ _ h => h) (Or.inl ⟨by rfl, ?yBa0⟩) (by assumption) ?rBa0
            case yBa0 => (intro w hSw; obtain ⟨s1, s2, s3, s4⟩ := hSw; go_simp; try with_reducible rfl)
            try simp only [Act.put, List.setIfInBounds_toArray, List.set_cons_zero, List.set_cons_succ]
            refine wpAnyH_take (i := 1) (oi := { dst := some 67, op := Go.Op.fieldAddr 27 (Go.Operand.tmp 4) 0, type := 0, pos := "law.go:56", after := #[], guard := none }) (v := ?vBa1) rfl (by kernel_rfl) (by kernel_rfl) (by kernel_rfl) (fun _ _ _ h => h) (Or.inl ⟨by rfl, ?yBa1⟩) (by assumption) ?rBa1
            case yBa1 => (intro w hSw; obtain ⟨s1, s2, s3, s4⟩ := hSw; go_simp; try with_reducible rfl)
            try simp only [Act.put, List.setIfInBounds_toArray, List.set_cons_zero, List.set_cons_succ]
            refine wpAnyH_take (i := 2) (oi := { dst := some 68, op := Go.Op.load 3 (Go.Operand.tmp 67), type := 3, pos := "law.go:56", after := #[{ on := 1, ground := Go.Ground.data }], guard := none }) (v := ?vBa2) rfl (by kernel_rfl) (by kernel_rfl) (by kernel_rfl) (fun _ _ _ h => h) (Or.inl ⟨by rfl, ?yBa2⟩) (by assumption) ?rBa2
            case yBa2 => (intro w hSw; obtain ⟨s1, s2, s3, s4⟩ := hSw; go_simp; try with_reducible rfl)
            try simp only [Act.put, List.setIfInBounds_toArray, List.set_cons_zero, List.set_cons_succ]
            refine wpAnyH_take (i := 3) (oi := { dst := some 69, op := Go.Op.binOp Go.BinOp.leq 3 (Go.Operand.tmp 66) (Go.Operand.tmp 68) 3, type := 4, pos := "law.go:56", after := #[{ on := 0, ground := Go.Ground.data }, { on := 2, ground := Go.Ground.data }], guard := none }) (v := ?vBa3) rfl (by kernel_rfl) (by kernel_rfl) (by kernel_rfl) (fun _ _ _ h => h) (Or.inl ⟨by rfl, ?yBa3⟩) (by assumption) ?rBa3
            case yBa3 => (intro w hSw; obtain ⟨s1, s2, s3, s4⟩ := hSw; go_simp; try with_reducible rfl)
            try simp only [Act.put, List.setIfInBounds_toArray, List.set_cons_zero, List.set_cons_succ]
            refine wpAnyH_take (i := 4) (oi := { dst := some 70, op := Go.Op.move (Go.Operand.tmp 69), type := 4, pos := "law.go:56", after := #[{ on := 3, ground := Go.Ground.data }], guard := none }) (v := ?vBa4) rfl (by kernel_rfl) (by kernel_rfl) (by kernel_rfl) (fun _ _ _ h => h) (Or.inl ⟨by rfl, ?yBa4⟩) (by assumption) ?rBa4
            case yBa4 => (intro w hSw; obtain ⟨s1, s2, s3, s4⟩ := hSw; go_simp; try with_reducible rfl)
            try simp only [Act.put, List.setIfInBounds_toArray, List.set_cons_zero, List.set_cons_succ]
            refine wpAnyH_take (i := 5) (oi := { dst := some 71, op := Go.Op.move (Go.Operand.tmp 11), type := 3, pos := "law.go:56", after := #[{ on := 4, ground := Go.Ground.guard }], guard := some (4, false) }) (v := undef) rfl (by kernel_rfl) (by kernel_rfl) (by kernel_rfl) (fun _ _ _ h => h) (Or.inr ⟨by rfl, rfl⟩) (by assumption) ?_
            try simp only [Act.put, List.setIfInBounds_toArray, List.set_cons_zero, List.set_cons_succ]
            refine wpAnyH_take (i := 6) (oi := { dst := some 72, op := Go.Op.fieldAddr 27 (Go.Operand.tmp 4) 0, type := 0, pos := "law.go:56", after := #[{ on := 4, ground := Go.Ground.guard }], guard := some (4, false) }) (v := undef) rfl (by kernel_rfl) (by kernel_rfl) (by kernel_rfl) (fun _ _ _ h => h) (Or.inr ⟨by rfl, rfl⟩) (by assumption) ?_
            try simp only [Act.put, List.setIfInBounds_toArray, List.set_cons_zero, List.set_cons_succ]
            refine wpAnyH_take (i := 7) (oi := { dst := some 73, op := Go.Op.load 3 (Go.Operand.tmp 72), type := 3, pos := "law.go:56", after := #[{ on := 6, ground := Go.Ground.data }, { on := 4, ground := Go.Ground.guard }], guard := some (4, false) }) (v := undef) rfl (by kernel_rfl) (by kernel_rfl) (by kernel_rfl) (fun _ _ _ h => h) (Or.inr ⟨by rfl, rfl⟩) (by assumption) ?_
            try simp only [Act.put, List.setIfInBounds_toArray, List.set_cons_zero, List.set_cons_succ]
            refine wpAnyH_take (i := 8) (oi := { dst := some 74, op := Go.Op.fieldAddr 27 (Go.Operand.tmp 4) 2, type := 0, pos := "law.go:56", after := #[{ on := 4, ground := Go.Ground.guard }], guard := some (4, false) }) (v := undef) rfl (by kernel_rfl) (by kernel_rfl) (by kernel_rfl) (fun _ _ _ h => h) (Or.inr ⟨by rfl, rfl⟩) (by assumption) ?_
            try simp only [Act.put, List.setIfInBounds_toArray, List.set_cons_zero, List.set_cons_succ]
            refine wpAnyH_take (i := 9) (oi := { dst := some 75, op := Go.Op.load 25 (Go.Operand.tmp 74), type := 25, pos := "law.go:56", after := #[{ on := 8, ground := Go.Ground.data }, { on := 4, ground := Go.Ground.guard }], guard := some (4, false) }) (v := undef) rfl (by kernel_rfl) (by kernel_rfl) (by kernel_rfl) (fun _ _ _ h => h) (Or.inr ⟨by rfl, rfl⟩) (by assumption) ?_
            try simp only [Act.put, List.setIfInBounds_toArray, List.set_cons_zero, List.set_cons_succ]
            refine wpAnyH_take (i := 10) (oi := { dst := some 76, op := Go.Op.call { callee := Go.Callee.builtin Go.Builtin.len, args := #[Go.Operand.tmp 75], argTypes := #[25] }, type := 3, pos := "law.go:56", after := #[{ on := 9, ground := Go.Ground.data }, { on := 4, ground := Go.Ground.guard }], guard := some (4, false) }) (v := undef) rfl (by kernel_rfl) (by kernel_rfl) (by kernel_rfl) (fun _ _ _ h => h) (Or.inr ⟨by rfl, rfl⟩) (by assumption) ?_
            try simp only [Act.put, List.setIfInBounds_toArray, List.set_cons_zero, List.set_cons_succ]
            refine wpAnyH_take (i := 11) (oi := { dst := some 77, op := Go.Op.binOp Go.BinOp.add 3 (Go.Operand.tmp 73) (Go.Operand.tmp 76) 3, type := 3, pos := "law.go:56", after := #[{ on := 7, ground := Go.Ground.data }, { on := 10, ground := Go.Ground.data }, { on := 4, ground := Go.Ground.guard }], guard := some (4, false) }) (v := undef) rfl (by kernel_rfl) (by kernel_rfl) (by kernel_rfl) (fun _ _ _ h => h) (Or.inr ⟨by rfl, rfl⟩) (by assumption) ?_
            try simp only [Act.put, List.setIfInBounds_toArray, List.set_cons_zero, List.set_cons_succ]
            refine wpAnyH_take (i := 12) (oi := { dst := some 78, op := Go.Op.binOp Go.BinOp.leq 3 (Go.Operand.tmp 71) (Go.Operand.tmp 77) 3, type := 4, pos := "law.go:56", after := #[{ on := 5, ground := Go.Ground.data }, { on := 11, ground := Go.Ground.data }, { on := 4, ground := Go.Ground.guard }], guard := some (4, false) }) (v := undef) rfl (by kernel_rfl) (by kernel_rfl) (by kernel_rfl) (fun _ _ _ h => h) (Or.inr ⟨by rfl, rfl⟩) (by assumption) ?_
            try simp only [Act.put, List.setIfInBounds_toArray, List.set_cons_zero, List.set_cons_succ]
            refine wpAnyH_take (i := 13) (oi := { dst := some 79, op := Go.Op.move (Go.Operand.tmp 78), type := 4, pos := "law.go:56", after := #[{ on := 12, ground := Go.Ground.data }, { on := 4, ground := Go.Ground.chain }, { on := 4, ground := Go.Ground.guard }], guard := some (4, false) }) (v := undef) rfl (by kernel_rfl) (by kernel_rfl) (by kernel_rfl) (fun _ _ _ h => h) (Or.inr ⟨by rfl, rfl⟩) (by assumption) ?_
            try simp only [Act.put, List.setIfInBounds_toArray, List.set_cons_zero, List.set_cons_succ]
            refine wpAnyH_take (i := 14) (oi := { dst := some 80, op := Go.Op.load 27 (Go.Operand.tmp 4), type := 27, pos := "law.go:56", after := #[{ on := 13, ground := Go.Ground.guard }], guard := some (13, true) }) (v := undef) rfl (by kernel_rfl) (by kernel_rfl) (by kernel_rfl) (fun _ _ _ h => h) (Or.inr ⟨by rfl, rfl⟩) (by assumption) ?_
            try simp only [Act.put, List.setIfInBounds_toArray, List.set_cons_zero, List.set_cons_succ]
            refine wpAnyH_take (i := 15) (oi := { dst := some 81, op := Go.Op.move (Go.Operand.tmp 11), type := 3, pos := "law.go:56", after := #[{ on := 13, ground := Go.Ground.guard }], guard := some (13, true) }) (v := undef) rfl (by kernel_rfl) (by kernel_rfl) (by kernel_rfl) (fun _ _ _ h => h) (Or.inr ⟨by rfl, rfl⟩) (by assumption) ?_
            try simp only [Act.put, List.setIfInBounds_toArray, List.set_cons_zero, List.set_cons_succ]
            refine wpAnyH_take (i := 16) (oi := { dst := some 82, op := Go.Op.call { callee := Go.Callee.value (Go.Operand.func 8), args := #[Go.Operand.tmp 80, Go.Operand.tmp 81], argTypes := #[27, 3] }, type := 3, pos := "law.go:56", after := #[{ on := 14, ground := Go.Ground.data }, { on := 15, ground := Go.Ground.data }, { on := 13, ground := Go.Ground.chain }, { on := 13, ground := Go.Ground.guard }], guard := some (13, true) }) (v := undef) rfl (by kernel_rfl) (by kernel_rfl) (by kernel_rfl) (fun _ _ _ h => h) (Or.inr ⟨by rfl, rfl⟩) (by assumption) ?_
            try simp only [Act.put, List.setIfInBounds_toArray, List.set_cons_zero, List.set_cons_succ]
            refine wpAnyH_take (i := 17) (oi := { dst := some 83, op := Go.Op.move (Go.Operand.tmp 3), type := 25, pos := "law.go:56", after := #[{ on := 13, ground := Go.Ground.guard }], guard := some (13, true) }) (v := undef) rfl (by kernel_rfl) (by kernel_rfl) (by kernel_rfl) (fun _ _ _ h => h) (Or.inr ⟨by rfl, rfl⟩) (by assumption) ?_
            try simp only [Act.put, List.setIfInBounds_toArray, List.set_cons_zero, List.set_cons_succ]
            refine wpAnyH_take (i := 18) (oi := { dst := some 84, op := Go.Op.move (Go.Operand.tmp 12), type := 3, pos := "law.go:56", after := #[{ on := 13, ground := Go.Ground.guard }], guard := some (13, true) }) (v := undef) rfl (by kernel_rfl) (by kernel_rfl) (by kernel_rfl) (fun _ _ _ h => h) (Or.inr ⟨by rfl, rfl⟩) (by assumption) ?_
            try simp only [Act.put, List.setIfInBounds_toArray, List.set_cons_zero, List.set_cons_succ]
            refine wpAnyH_take (i := 19) (oi := { dst := some 85, op := Go.Op.indexAddr 25 (Go.Operand.tmp 83) (Go.Operand.tmp 84), type := 0, pos := "law.go:56", after := #[{ on := 17, ground := Go.Ground.data }, { on := 18, ground := Go.Ground.data }, { on := 13, ground := Go.Ground.guard }], guard := some (13, true) }) (v := undef) rfl (by kernel_rfl) (by kernel_rfl) (by kernel_rfl) (fun _ _ _ h => h) (Or.inr ⟨by rfl, rfl⟩) (by assumption) ?_
            try simp only [Act.put, List.setIfInBounds_toArray, List.set_cons_zero, List.set_cons_succ]
            refine wpAnyH_take (i := 20) (oi := { dst := some 86, op := Go.Op.fieldAddr 46 (Go.Operand.tmp 85) 0, type := 0, pos := "law.go:56", after := #[{ on := 19, ground := Go.Ground.data }, { on := 13, ground := Go.Ground.guard }], guard := some (13, true) }) (v := undef) rfl (by kernel_rfl) (by kernel_rfl) (by kernel_rfl) (fun _ _ _ h => h) (Or.inr ⟨by rfl, rfl⟩) (by assumption) ?_
            try simp only [Act.put, List.setIfInBounds_toArray, List.set_cons_zero, List.set_cons_succ]
            refine wpAnyH_take (i := 21) (oi := { dst := some 87, op := Go.Op.load 3 (Go.Operand.tmp 86), type := 3, pos := "law.go:56", after := #[{ on := 20, ground := Go.Ground.data }, { on := 13, ground := Go.Ground.guard }], guard := some (13, true) }) (v := undef) rfl (by kernel_rfl) (by kernel_rfl) (by kernel_rfl) (fun _ _ _ h => h) (Or.inr ⟨by rfl, rfl⟩) (by assumption) ?_
            try simp only [Act.put, List.setIfInBounds_toArray, List.set_cons_zero, List.set_cons_succ]
            refine wpAnyH_take (i := 22) (oi := { dst := some 88, op := Go.Op.binOp Go.BinOp.eql 3 (Go.Operand.tmp 82) (Go.Operand.tmp 87) 3, type := 4, pos := "law.go:56", after := #[{ on := 16, ground := Go.Ground.data }, { on := 21, ground := Go.Ground.data }, { on := 13, ground := Go.Ground.guard }], guard := some (13, true) }) (v := undef) rfl (by kernel_rfl) (by kernel_rfl) (by kernel_rfl) (fun _ _ _ h => h) (Or.inr ⟨by rfl, rfl⟩) (by assumption) ?_
            try simp only [Act.put, List.setIfInBounds_toArray, List.set_cons_zero, List.set_cons_succ]
            refine wpAnyH_take (i := 23) (oi := { dst := some 89, op := Go.Op.pick (Go.Operand.tmp 79) (Go.Operand.tmp 88) (Go.Operand.const (Go.Value.bool false)), type := 4, pos := "law.go:56", after := #[{ on := 13, ground := Go.Ground.data }, { on := 22, ground := Go.Ground.data }, { on := 4, ground := Go.Ground.guard }], guard := some (4, false) }) (v := undef) rfl (by kernel_rfl) (by kernel_rfl) (by kernel_rfl) (fun _ _ _ h => h) (Or.inr ⟨by rfl, rfl⟩) (by assumption) ?_
            try simp only [Act.put, List.setIfInBounds_toArray, List.set_cons_zero, List.set_cons_succ]
            refine wpAnyH_take (i := 24) (oi := { dst := some 90, op := Go.Op.pick (Go.Operand.tmp 70) (Go.Operand.const (Go.Value.bool true)) (Go.Operand.tmp 89), type := 4, pos := "law.go:56", after := #[{ on := 4, ground := Go.Ground.data }, { on := 23, ground := Go.Ground.data }], guard := none }) (v := ?vBa24) rfl (by kernel_rfl) (by kernel_rfl) (by kernel_rfl) (fun _ _ _ h => h) (Or.inl ⟨by rfl, ?yBa24⟩) (by assumption) ?rBa24
            case yBa24 => (intro w hSw; obtain ⟨s1, s2, s3, s4⟩ := hSw; go_simp; try with_reducible rfl)
            try simp only [Act.put, List.setIfInBounds_toArray, List.set_cons_zero, List.set_cons_succ]
            refine wpAnyH_done (by kernel_rfl) ?_ _
            go_wp2_with fail
            go_meet
            exact ⟨rfl, below_drew' (Below.refl _ _)⟩
          · have r2 : decide (K ≤ B) = false := by have := HKK.out.2; simp; omega
            have r3 : ¬ (K ≤ B) := by simpa using r2
            by_cases r4 : k0 + (j - d) < L
            · have r5 : decide (K ≤ B + (L : Int)) = true := by have := HKK.out.2; simp; omega
              have r6 : K ≤ B + (L : Int) := by simpa using r5
              obtain ⟨S2, hS2⟩ : ∃ S2, (ms'.map EN.t).getD (k0 + (j - d)) 0 = S2 := ⟨_, rfl⟩
              have hst : (S2 == e.t) = stay := by rw [← HSTAY.out, show decide (j < d) = false by simpa using r1, show decide (k0 + (j - d) < L) = true by simpa using r4, hS2]; rfl
              have cmt : ∀ w', Below wr.heap.size wr w' → Calls Try.prog 8 #[.agg #[.int .i64 B, .int .i64 T, .slice wa L wq], .int .i64 K] w' fun e w'' => e = .returned (.int .i64 S2) ∧ Below w'.heap.size w' w'' := fun w' hb => by
                have h := mat B T K w' _ ms' (HE.out.1.below hb) hB (by rw [HE.out.2.1]; omega) (by omega)
                have e0 : termG B T ms' K = S2 := by
                  unfold termG
                  have := HKK.out.2
                  rw [if_neg (by omega), if_pos (by omega), show (K - B - 1).toNat = k0 + (j - d) by omega]
                  exact hS2
                rw [e0] at h
                exact h
              clear hS2
              refine wp_region_held_drew (S := MS1 X B T (.slice wa L wq) bu (ou + j * 7) e.t) (by kernel_rfl) HS1.out (fun hHeld => ?_)
              refine wpAnyH_take (i := 0) (oi := { dst := some 66, op := Go.Op.move (Go.Operand.tmp 11), type := 3, pos := "law.go:56", after := #[], guard := none }) (v := ?vBc0) rfl (by kernel_rfl) (by kernel_rfl) (by kernel_rfl) (fun _ _ _ h => h) (Or.inl ⟨by rfl, ?yBc0⟩) (by assumption) ?rBc0
              case yBc0 => (intro w hSw; obtain ⟨s1, s2, s3, s4⟩ := hSw; go_simp; try with_reducible rfl)
              try simp only [Act.put, List.setIfInBounds_toArray, List.set_cons_zero, List.set_cons_succ]
              refine wpAnyH_take (i := 1) (oi := { dst := some 67, op := Go.Op.fieldAddr 27 (Go.Operand.tmp 4) 0, type := 0, pos := "law.go:56", after := #[], guard := none }) (v := ?vBc1) rfl (by kernel_rfl) (by kernel_rfl) (by kernel_rfl) (fun _ _ _ h => h) (Or.inl ⟨by rfl, ?yBc1⟩) (by assumption) ?rBc1
              case yBc1 => (intro w hSw; obtain ⟨s1, s2, s3, s4⟩ := hSw; go_simp; try with_reducible rfl)
              try simp only [Act.put, List.setIfInBounds_toArray, List.set_cons_zero, List.set_cons_succ]
              refine wpAnyH_take (i := 2) (oi := { dst := some 68, op := Go.Op.load 3 (Go.Operand.tmp 67), type := 3, pos := "law.go:56", after := #[{ on := 1, ground := Go.Ground.data }], guard := none }) (v := ?vBc2) rfl (by kernel_rfl) (by kernel_rfl) (by kernel_rfl) (fun _ _ _ h => h) (Or.inl ⟨by rfl, ?yBc2⟩) (by assumption) ?rBc2
              case yBc2 => (intro w hSw; obtain ⟨s1, s2, s3, s4⟩ := hSw; go_simp; try with_reducible rfl)
              try simp only [Act.put, List.setIfInBounds_toArray, List.set_cons_zero, List.set_cons_succ]
              refine wpAnyH_take (i := 3) (oi := { dst := some 69, op := Go.Op.binOp Go.BinOp.leq 3 (Go.Operand.tmp 66) (Go.Operand.tmp 68) 3, type := 4, pos := "law.go:56", after := #[{ on := 0, ground := Go.Ground.data }, { on := 2, ground := Go.Ground.data }], guard := none }) (v := ?vBc3) rfl (by kernel_rfl) (by kernel_rfl) (by kernel_rfl) (fun _ _ _ h => h) (Or.inl ⟨by rfl, ?yBc3⟩) (by assumption) ?rBc3
              case yBc3 => (intro w hSw; obtain ⟨s1, s2, s3, s4⟩ := hSw; go_simp; try with_reducible rfl)
              try simp only [Act.put, List.setIfInBounds_toArray, List.set_cons_zero, List.set_cons_succ]
              refine wpAnyH_take (i := 4) (oi := { dst := some 70, op := Go.Op.move (Go.Operand.tmp 69), type := 4, pos := "law.go:56", after := #[{ on := 3, ground := Go.Ground.data }], guard := none }) (v := ?vBc4) rfl (by kernel_rfl) (by kernel_rfl) (by kernel_rfl) (fun _ _ _ h => h) (Or.inl ⟨by rfl, ?yBc4⟩) (by assumption) ?rBc4
              case yBc4 => (intro w hSw; obtain ⟨s1, s2, s3, s4⟩ := hSw; go_simp; try with_reducible rfl)
              try simp only [Act.put, List.setIfInBounds_toArray, List.set_cons_zero, List.set_cons_succ]
              refine wpAnyH_take (i := 5) (oi := { dst := some 71, op := Go.Op.move (Go.Operand.tmp 11), type := 3, pos := "law.go:56", after := #[{ on := 4, ground := Go.Ground.guard }], guard := some (4, false) }) (v := ?vBc5) rfl (by kernel_rfl) (by kernel_rfl) (by kernel_rfl) (fun _ _ _ h => h) (Or.inl ⟨by rfl, ?yBc5⟩) (by assumption) ?rBc5
              case yBc5 => (intro w hSw; obtain ⟨s1, s2, s3, s4⟩ := hSw; go_simp; try with_reducible rfl)
              try simp only [Act.put, List.setIfInBounds_toArray, List.set_cons_zero, List.set_cons_succ]
              refine wpAnyH_take (i := 6) (oi := { dst := some 72, op := Go.Op.fieldAddr 27 (Go.Operand.tmp 4) 0, type := 0, pos := "law.go:56", after := #[{ on := 4, ground := Go.Ground.guard }], guard := some (4, false) }) (v := ?vBc6) rfl (by kernel_rfl) (by kernel_rfl) (by kernel_rfl) (fun _ _ _ h => h) (Or.inl ⟨by rfl, ?yBc6⟩) (by assumption) ?rBc6
              case yBc6 => (intro w hSw; obtain ⟨s1, s2, s3, s4⟩ := hSw; go_simp; try with_reducible rfl)
              try simp only [Act.put, List.setIfInBounds_toArray, List.set_cons_zero, List.set_cons_succ]
              refine wpAnyH_take (i := 7) (oi := { dst := some 73, op := Go.Op.load 3 (Go.Operand.tmp 72), type := 3, pos := "law.go:56", after := #[{ on := 6, ground := Go.Ground.data }, { on := 4, ground := Go.Ground.guard }], guard := some (4, false) }) (v := ?vBc7) rfl (by kernel_rfl) (by kernel_rfl) (by kernel_rfl) (fun _ _ _ h => h) (Or.inl ⟨by rfl, ?yBc7⟩) (by assumption) ?rBc7
              case yBc7 => (intro w hSw; obtain ⟨s1, s2, s3, s4⟩ := hSw; go_simp; try with_reducible rfl)
              try simp only [Act.put, List.setIfInBounds_toArray, List.set_cons_zero, List.set_cons_succ]
              refine wpAnyH_take (i := 8) (oi := { dst := some 74, op := Go.Op.fieldAddr 27 (Go.Operand.tmp 4) 2, type := 0, pos := "law.go:56", after := #[{ on := 4, ground := Go.Ground.guard }], guard := some (4, false) }) (v := ?vBc8) rfl (by kernel_rfl) (by kernel_rfl) (by kernel_rfl) (fun _ _ _ h => h) (Or.inl ⟨by rfl, ?yBc8⟩) (by assumption) ?rBc8
              case yBc8 => (intro w hSw; obtain ⟨s1, s2, s3, s4⟩ := hSw; go_simp; try with_reducible rfl)
              try simp only [Act.put, List.setIfInBounds_toArray, List.set_cons_zero, List.set_cons_succ]
              refine wpAnyH_take (i := 9) (oi := { dst := some 75, op := Go.Op.load 25 (Go.Operand.tmp 74), type := 25, pos := "law.go:56", after := #[{ on := 8, ground := Go.Ground.data }, { on := 4, ground := Go.Ground.guard }], guard := some (4, false) }) (v := ?vBc9) rfl (by kernel_rfl) (by kernel_rfl) (by kernel_rfl) (fun _ _ _ h => h) (Or.inl ⟨by rfl, ?yBc9⟩) (by assumption) ?rBc9
              case yBc9 => (intro w hSw; obtain ⟨s1, s2, s3, s4⟩ := hSw; go_simp; try with_reducible rfl)
              try simp only [Act.put, List.setIfInBounds_toArray, List.set_cons_zero, List.set_cons_succ]
              refine wpAnyH_take (i := 10) (oi := { dst := some 76, op := Go.Op.call { callee := Go.Callee.builtin Go.Builtin.len, args := #[Go.Operand.tmp 75], argTypes := #[25] }, type := 3, pos := "law.go:56", after := #[{ on := 9, ground := Go.Ground.data }, { on := 4, ground := Go.Ground.guard }], guard := some (4, false) }) (v := ?vBc10) rfl (by kernel_rfl) (by kernel_rfl) (by kernel_rfl) (fun _ _ _ h => h) (Or.inl ⟨by rfl, ?yBc10⟩) (by assumption) ?rBc10
              case yBc10 => (intro w hSw; obtain ⟨s1, s2, s3, s4⟩ := hSw; go_simp; try with_reducible rfl)
              try simp only [Act.put, List.setIfInBounds_toArray, List.set_cons_zero, List.set_cons_succ]
              refine wpAnyH_take (i := 11) (oi := { dst := some 77, op := Go.Op.binOp Go.BinOp.add 3 (Go.Operand.tmp 73) (Go.Operand.tmp 76) 3, type := 3, pos := "law.go:56", after := #[{ on := 7, ground := Go.Ground.data }, { on := 10, ground := Go.Ground.data }, { on := 4, ground := Go.Ground.guard }], guard := some (4, false) }) (v := ?vBc11) rfl (by kernel_rfl) (by kernel_rfl) (by kernel_rfl) (fun _ _ _ h => h) (Or.inl ⟨by rfl, ?yBc11⟩) (by assumption) ?rBc11
              case yBc11 => (intro w hSw; obtain ⟨s1, s2, s3, s4⟩ := hSw; go_simp; try with_reducible rfl)
              try simp only [Act.put, List.setIfInBounds_toArray, List.set_cons_zero, List.set_cons_succ]
              refine wpAnyH_take (i := 12) (oi := { dst := some 78, op := Go.Op.binOp Go.BinOp.leq 3 (Go.Operand.tmp 71) (Go.Operand.tmp 77) 3, type := 4, pos := "law.go:56", after := #[{ on := 5, ground := Go.Ground.data }, { on := 11, ground := Go.Ground.data }, { on := 4, ground := Go.Ground.guard }], guard := some (4, false) }) (v := ?vBc12) rfl (by kernel_rfl) (by kernel_rfl) (by kernel_rfl) (fun _ _ _ h => h) (Or.inl ⟨by rfl, ?yBc12⟩) (by assumption) ?rBc12
              case yBc12 => (intro w hSw; obtain ⟨s1, s2, s3, s4⟩ := hSw; go_simp; try with_reducible rfl)
              try simp only [Act.put, List.setIfInBounds_toArray, List.set_cons_zero, List.set_cons_succ]
              refine wpAnyH_take (i := 13) (oi := { dst := some 79, op := Go.Op.move (Go.Operand.tmp 78), type := 4, pos := "law.go:56", after := #[{ on := 12, ground := Go.Ground.data }, { on := 4, ground := Go.Ground.chain }, { on := 4, ground := Go.Ground.guard }], guard := some (4, false) }) (v := ?vBc13) rfl (by kernel_rfl) (by kernel_rfl) (by kernel_rfl) (fun _ _ _ h => h) (Or.inl ⟨by rfl, ?yBc13⟩) (by assumption) ?rBc13
              case yBc13 => (intro w hSw; obtain ⟨s1, s2, s3, s4⟩ := hSw; go_simp; try with_reducible rfl)
              try simp only [Act.put, List.setIfInBounds_toArray, List.set_cons_zero, List.set_cons_succ]
              refine wpAnyH_take (i := 14) (oi := { dst := some 80, op := Go.Op.load 27 (Go.Operand.tmp 4), type := 27, pos := "law.go:56", after := #[{ on := 13, ground := Go.Ground.guard }], guard := some (13, true) }) (v := ?vBc14) rfl (by kernel_rfl) (by kernel_rfl) (by kernel_rfl) (fun _ _ _ h => h) (Or.inl ⟨by rfl, ?yBc14⟩) (by assumption) ?rBc14
              case yBc14 => (intro w hSw; obtain ⟨s1, s2, s3, s4⟩ := hSw; go_simp; try with_reducible rfl)
              try simp only [Act.put, List.setIfInBounds_toArray, List.set_cons_zero, List.set_cons_succ]
              refine wpAnyH_take (i := 15) (oi := { dst := some 81, op := Go.Op.move (Go.Operand.tmp 11), type := 3, pos := "law.go:56", after := #[{ on := 13, ground := Go.Ground.guard }], guard := some (13, true) }) (v := ?vBc15) rfl (by kernel_rfl) (by kernel_rfl) (by kernel_rfl) (fun _ _ _ h => h) (Or.inl ⟨by rfl, ?yBc15⟩) (by assumption) ?rBc15
              case yBc15 => (intro w hSw; obtain ⟨s1, s2, s3, s4⟩ := hSw; go_simp; try with_reducible rfl)
              try simp only [Act.put, List.setIfInBounds_toArray, List.set_cons_zero, List.set_cons_succ]
              refine wpAnyH_take (i := 17) (oi := { dst := some 83, op := Go.Op.move (Go.Operand.tmp 3), type := 25, pos := "law.go:56", after := #[{ on := 13, ground := Go.Ground.guard }], guard := some (13, true) }) (v := ?vBc17) rfl (by kernel_rfl) (by kernel_rfl) (by kernel_rfl) (fun _ _ _ h => h) (Or.inl ⟨by rfl, ?yBc17⟩) (by assumption) ?rBc17
              case yBc17 => (intro w hSw; obtain ⟨s1, s2, s3, s4⟩ := hSw; go_simp; try with_reducible rfl)
              try simp only [Act.put, List.setIfInBounds_toArray, List.set_cons_zero, List.set_cons_succ]
              refine wpAnyH_take (i := 18) (oi := { dst := some 84, op := Go.Op.move (Go.Operand.tmp 12), type := 3, pos := "law.go:56", after := #[{ on := 13, ground := Go.Ground.guard }], guard := some (13, true) }) (v := ?vBc18) rfl (by kernel_rfl) (by kernel_rfl) (by kernel_rfl) (fun _ _ _ h => h) (Or.inl ⟨by rfl, ?yBc18⟩) (by assumption) ?rBc18
              case yBc18 => (intro w hSw; obtain ⟨s1, s2, s3, s4⟩ := hSw; go_simp; try with_reducible rfl)
              try simp only [Act.put, List.setIfInBounds_toArray, List.set_cons_zero, List.set_cons_succ]
              refine wpAnyH_take (i := 19) (oi := { dst := some 85, op := Go.Op.indexAddr 25 (Go.Operand.tmp 83) (Go.Operand.tmp 84), type := 0, pos := "law.go:56", after := #[{ on := 17, ground := Go.Ground.data }, { on := 18, ground := Go.Ground.data }, { on := 13, ground := Go.Ground.guard }], guard := some (13, true) }) (v := ?vBc19) rfl (by kernel_rfl) (by kernel_rfl) (by kernel_rfl) (fun _ _ _ h => h) (Or.inl ⟨by rfl, ?yBc19⟩) (by assumption) ?rBc19
              case yBc19 => (intro w hSw; obtain ⟨s1, s2, s3, s4⟩ := hSw; go_simp; try with_reducible rfl)
              try simp only [Act.put, List.setIfInBounds_toArray, List.set_cons_zero, List.set_cons_succ]
              refine wpAnyH_take (i := 20) (oi := { dst := some 86, op := Go.Op.fieldAddr 46 (Go.Operand.tmp 85) 0, type := 0, pos := "law.go:56", after := #[{ on := 19, ground := Go.Ground.data }, { on := 13, ground := Go.Ground.guard }], guard := some (13, true) }) (v := ?vBc20) rfl (by kernel_rfl) (by kernel_rfl) (by kernel_rfl) (fun _ _ _ h => h) (Or.inl ⟨by rfl, ?yBc20⟩) (by assumption) ?rBc20
              case yBc20 => (intro w hSw; obtain ⟨s1, s2, s3, s4⟩ := hSw; go_simp; try with_reducible rfl)
              try simp only [Act.put, List.setIfInBounds_toArray, List.set_cons_zero, List.set_cons_succ]
              refine wpAnyH_take (i := 21) (oi := { dst := some 87, op := Go.Op.load 3 (Go.Operand.tmp 86), type := 3, pos := "law.go:56", after := #[{ on := 20, ground := Go.Ground.data }, { on := 13, ground := Go.Ground.guard }], guard := some (13, true) }) (v := ?vBc21) rfl (by kernel_rfl) (by kernel_rfl) (by kernel_rfl) (fun _ _ _ h => h) (Or.inl ⟨by rfl, ?yBc21⟩) (by assumption) ?rBc21
              case yBc21 => (intro w hSw; obtain ⟨s1, s2, s3, s4⟩ := hSw; go_simp; try with_reducible rfl)
              try simp only [Act.put, List.setIfInBounds_toArray, List.set_cons_zero, List.set_cons_succ]
              refine wpAnyH_ready (rs := [16]) (by kernel_rfl) (by simp) ?_
              refine AllReadyH.cons (o := { dst := some 82, op := Go.Op.call { callee := Go.Callee.value (Go.Operand.func 8), args := #[Go.Operand.tmp 80, Go.Operand.tmp 81], argTypes := #[27, 3] }, type := 3, pos := "law.go:56", after := #[{ on := 14, ground := Go.Ground.data }, { on := 15, ground := Go.Ground.data }, { on := 13, ground := Go.Ground.chain }, { on := 13, ground := Go.Ground.guard }], guard := some (13, true) }) rfl (fun K hK => ?_) AllReadyH.nil
              go_simp
              go_at_call 8
              refine Calls.mono (cmt _ (below_drew' (Below.refl _ _))) ?_
              rintro ev wz ⟨rfl, hbz⟩
              have hbz2 := (below_drew' (Below.refl wr.heap.size wr)).trans hbz
              try simp only []
              refine hK.out _ _ (HS1.out.below hbz2) (fun hHeld2 => ?_)
              clear hK K hHeld
              have hHeld := hHeld2
              clear hHeld2
              try simp only [Act.put, List.setIfInBounds_toArray, List.set_cons_zero, List.set_cons_succ]
              refine wpAnyH_take (i := 22) (oi := { dst := some 88, op := Go.Op.binOp Go.BinOp.eql 3 (Go.Operand.tmp 82) (Go.Operand.tmp 87) 3, type := 4, pos := "law.go:56", after := #[{ on := 16, ground := Go.Ground.data }, { on := 21, ground := Go.Ground.data }, { on := 13, ground := Go.Ground.guard }], guard := some (13, true) }) (v := ?vBc22) rfl (by kernel_rfl) (by kernel_rfl) (by kernel_rfl) (fun _ _ _ h => h) (Or.inl ⟨by rfl, ?yBc22⟩) (by assumption) ?rBc22
              case yBc22 => (intro w hSw; obtain ⟨s1, s2, s3, s4⟩ := hSw; go_simp; try with_reducible rfl)
              try simp only [Act.put, List.setIfInBounds_toArray, List.set_cons_zero, List.set_cons_succ]
              refine wpAnyH_take (i := 23) (oi := { dst := some 89, op := Go.Op.pick (Go.Operand.tmp 79) (Go.Operand.tmp 88) (Go.Operand.const (Go.Value.bool false)), type := 4, pos := "law.go:56", after := #[{ on := 13, ground := Go.Ground.data }, { on := 22, ground := Go.Ground.data }, { on := 4, ground := Go.Ground.guard }], guard := some (4, false) }) (v := ?vBc23) rfl (by kernel_rfl) (by kernel_rfl) (by kernel_rfl) (fun _ _ _ h => h) (Or.inl ⟨by rfl, ?yBc23⟩) (by assumption) ?rBc23
              case yBc23 => (intro w hSw; obtain ⟨s1, s2, s3, s4⟩ := hSw; go_simp; try with_reducible rfl)
              try simp only [Act.put, List.setIfInBounds_toArray, List.set_cons_zero, List.set_cons_succ]
              refine wpAnyH_take (i := 24) (oi := { dst := some 90, op := Go.Op.pick (Go.Operand.tmp 70) (Go.Operand.const (Go.Value.bool true)) (Go.Operand.tmp 89), type := 4, pos := "law.go:56", after := #[{ on := 4, ground := Go.Ground.data }, { on := 23, ground := Go.Ground.data }], guard := none }) (v := ?vBc24) rfl (by kernel_rfl) (by kernel_rfl) (by kernel_rfl) (fun _ _ _ h => h) (Or.inl ⟨by rfl, ?yBc24⟩) (by assumption) ?rBc24
              case yBc24 => (intro w hSw; obtain ⟨s1, s2, s3, s4⟩ := hSw; go_simp; try with_reducible rfl)
              try simp only [Act.put, List.setIfInBounds_toArray, List.set_cons_zero, List.set_cons_succ]
              refine wpAnyH_done (by kernel_rfl) ?_ _
              go_wp2_with fail
              go_meet
              exact ⟨by rw [← hst], hbz2⟩
            · have hst : stay = false := by rw [← HSTAY.out, show decide (j < d) = false by simpa using r1, show decide (k0 + (j - d) < L) = false by simpa using r4]; rfl
              subst hst
              have r5 : decide (K ≤ B + (L : Int)) = false := by have := HKK.out.2; have := HLK.out.1 (by omega); simp; omega
              have r6 : ¬ (K ≤ B + (L : Int)) := by simpa using r5
              refine wp_region_held_drew (S := MS1 X B T (.slice wa L wq) bu (ou + j * 7) e.t) (by kernel_rfl) HS1.out (fun hHeld => ?_)
              refine wpAnyH_take (i := 0) (oi := { dst := some 66, op := Go.Op.move (Go.Operand.tmp 11), type := 3, pos := "law.go:56", after := #[], guard := none }) (v := ?vBb0) rfl (by kernel_rfl) (by kernel_rfl) (by kernel_rfl) (fun _ _ _ h => h) (Or.inl ⟨by rfl, ?yBb0⟩) (by assumption) ?rBb0
              case yBb0 => (intro w hSw; obtain ⟨s1, s2, s3, s4⟩ := hSw; go_simp; try with_reducible rfl)
              try simp only [Act.put, List.setIfInBounds_toArray, List.set_cons_zero, List.set_cons_succ]
              refine wpAnyH_take (i := 1) (oi := { dst := some 67, op := Go.Op.fieldAddr 27 (Go.Operand.tmp 4) 0, type := 0, pos := "law.go:56", after := #[], guard := none }) (v := ?vBb1) rfl (by kernel_rfl) (by kernel_rfl) (by kernel_rfl) (fun _ _ _ h => h) (Or.inl ⟨by rfl, ?yBb1⟩) (by assumption) ?rBb1
              case yBb1 => (intro w hSw; obtain ⟨s1, s2, s3, s4⟩ := hSw; go_simp; try with_reducible rfl)
              try simp only [Act.put, List.setIfInBounds_toArray, List.set_cons_zero, List.set_cons_succ]
              refine wpAnyH_take (i := 2) (oi := { dst := some 68, op := Go.Op.load 3 (Go.Operand.tmp 67), type := 3, pos := "law.go:56", after := #[{ on := 1, ground := Go.Ground.data }], guard := none }) (v := ?vBb2) rfl (by kernel_rfl) (by kernel_rfl) (by kernel_rfl) (fun _ _ _ h => h) (Or.inl ⟨by rfl, ?yBb2⟩) (by assumption) ?rBb2
              case yBb2 => (intro w hSw; obtain ⟨s1, s2, s3, s4⟩ := hSw; go_simp; try with_reducible rfl)
              try simp only [Act.put, List.setIfInBounds_toArray, List.set_cons_zero, List.set_cons_succ]
              refine wpAnyH_take (i := 3) (oi := { dst := some 69, op := Go.Op.binOp Go.BinOp.leq 3 (Go.Operand.tmp 66) (Go.Operand.tmp 68) 3, type := 4, pos := "law.go:56", after := #[{ on := 0, ground := Go.Ground.data }, { on := 2, ground := Go.Ground.data }], guard := none }) (v := ?vBb3) rfl (by kernel_rfl) (by kernel_rfl) (by kernel_rfl) (fun _ _ _ h => h) (Or.inl ⟨by rfl, ?yBb3⟩) (by assumption) ?rBb3
              case yBb3 => (intro w hSw; obtain ⟨s1, s2, s3, s4⟩ := hSw; go_simp; try with_reducible rfl)
              try simp only [Act.put, List.setIfInBounds_toArray, List.set_cons_zero, List.set_cons_succ]
              refine wpAnyH_take (i := 4) (oi := { dst := some 70, op := Go.Op.move (Go.Operand.tmp 69), type := 4, pos := "law.go:56", after := #[{ on := 3, ground := Go.Ground.data }], guard := none }) (v := ?vBb4) rfl (by kernel_rfl) (by kernel_rfl) (by kernel_rfl) (fun _ _ _ h => h) (Or.inl ⟨by rfl, ?yBb4⟩) (by assumption) ?rBb4
              case yBb4 => (intro w hSw; obtain ⟨s1, s2, s3, s4⟩ := hSw; go_simp; try with_reducible rfl)
              try simp only [Act.put, List.setIfInBounds_toArray, List.set_cons_zero, List.set_cons_succ]
              refine wpAnyH_take (i := 5) (oi := { dst := some 71, op := Go.Op.move (Go.Operand.tmp 11), type := 3, pos := "law.go:56", after := #[{ on := 4, ground := Go.Ground.guard }], guard := some (4, false) }) (v := ?vBb5) rfl (by kernel_rfl) (by kernel_rfl) (by kernel_rfl) (fun _ _ _ h => h) (Or.inl ⟨by rfl, ?yBb5⟩) (by assumption) ?rBb5
              case yBb5 => (intro w hSw; obtain ⟨s1, s2, s3, s4⟩ := hSw; go_simp; try with_reducible rfl)
              try simp only [Act.put, List.setIfInBounds_toArray, List.set_cons_zero, List.set_cons_succ]
              refine wpAnyH_take (i := 6) (oi := { dst := some 72, op := Go.Op.fieldAddr 27 (Go.Operand.tmp 4) 0, type := 0, pos := "law.go:56", after := #[{ on := 4, ground := Go.Ground.guard }], guard := some (4, false) }) (v := ?vBb6) rfl (by kernel_rfl) (by kernel_rfl) (by kernel_rfl) (fun _ _ _ h => h) (Or.inl ⟨by rfl, ?yBb6⟩) (by assumption) ?rBb6
              case yBb6 => (intro w hSw; obtain ⟨s1, s2, s3, s4⟩ := hSw; go_simp; try with_reducible rfl)
              try simp only [Act.put, List.setIfInBounds_toArray, List.set_cons_zero, List.set_cons_succ]
              refine wpAnyH_take (i := 7) (oi := { dst := some 73, op := Go.Op.load 3 (Go.Operand.tmp 72), type := 3, pos := "law.go:56", after := #[{ on := 6, ground := Go.Ground.data }, { on := 4, ground := Go.Ground.guard }], guard := some (4, false) }) (v := ?vBb7) rfl (by kernel_rfl) (by kernel_rfl) (by kernel_rfl) (fun _ _ _ h => h) (Or.inl ⟨by rfl, ?yBb7⟩) (by assumption) ?rBb7
              case yBb7 => (intro w hSw; obtain ⟨s1, s2, s3, s4⟩ := hSw; go_simp; try with_reducible rfl)
              try simp only [Act.put, List.setIfInBounds_toArray, List.set_cons_zero, List.set_cons_succ]
              refine wpAnyH_take (i := 8) (oi := { dst := some 74, op := Go.Op.fieldAddr 27 (Go.Operand.tmp 4) 2, type := 0, pos := "law.go:56", after := #[{ on := 4, ground := Go.Ground.guard }], guard := some (4, false) }) (v := ?vBb8) rfl (by kernel_rfl) (by kernel_rfl) (by kernel_rfl) (fun _ _ _ h => h) (Or.inl ⟨by rfl, ?yBb8⟩) (by assumption) ?rBb8
              case yBb8 => (intro w hSw; obtain ⟨s1, s2, s3, s4⟩ := hSw; go_simp; try with_reducible rfl)
              try simp only [Act.put, List.setIfInBounds_toArray, List.set_cons_zero, List.set_cons_succ]
              refine wpAnyH_take (i := 9) (oi := { dst := some 75, op := Go.Op.load 25 (Go.Operand.tmp 74), type := 25, pos := "law.go:56", after := #[{ on := 8, ground := Go.Ground.data }, { on := 4, ground := Go.Ground.guard }], guard := some (4, false) }) (v := ?vBb9) rfl (by kernel_rfl) (by kernel_rfl) (by kernel_rfl) (fun _ _ _ h => h) (Or.inl ⟨by rfl, ?yBb9⟩) (by assumption) ?rBb9
              case yBb9 => (intro w hSw; obtain ⟨s1, s2, s3, s4⟩ := hSw; go_simp; try with_reducible rfl)
              try simp only [Act.put, List.setIfInBounds_toArray, List.set_cons_zero, List.set_cons_succ]
              refine wpAnyH_take (i := 10) (oi := { dst := some 76, op := Go.Op.call { callee := Go.Callee.builtin Go.Builtin.len, args := #[Go.Operand.tmp 75], argTypes := #[25] }, type := 3, pos := "law.go:56", after := #[{ on := 9, ground := Go.Ground.data }, { on := 4, ground := Go.Ground.guard }], guard := some (4, false) }) (v := ?vBb10) rfl (by kernel_rfl) (by kernel_rfl) (by kernel_rfl) (fun _ _ _ h => h) (Or.inl ⟨by rfl, ?yBb10⟩) (by assumption) ?rBb10
              case yBb10 => (intro w hSw; obtain ⟨s1, s2, s3, s4⟩ := hSw; go_simp; try with_reducible rfl)
              try simp only [Act.put, List.setIfInBounds_toArray, List.set_cons_zero, List.set_cons_succ]
              refine wpAnyH_take (i := 11) (oi := { dst := some 77, op := Go.Op.binOp Go.BinOp.add 3 (Go.Operand.tmp 73) (Go.Operand.tmp 76) 3, type := 3, pos := "law.go:56", after := #[{ on := 7, ground := Go.Ground.data }, { on := 10, ground := Go.Ground.data }, { on := 4, ground := Go.Ground.guard }], guard := some (4, false) }) (v := ?vBb11) rfl (by kernel_rfl) (by kernel_rfl) (by kernel_rfl) (fun _ _ _ h => h) (Or.inl ⟨by rfl, ?yBb11⟩) (by assumption) ?rBb11
              case yBb11 => (intro w hSw; obtain ⟨s1, s2, s3, s4⟩ := hSw; go_simp; try with_reducible rfl)
              try simp only [Act.put, List.setIfInBounds_toArray, List.set_cons_zero, List.set_cons_succ]
              refine wpAnyH_take (i := 12) (oi := { dst := some 78, op := Go.Op.binOp Go.BinOp.leq 3 (Go.Operand.tmp 71) (Go.Operand.tmp 77) 3, type := 4, pos := "law.go:56", after := #[{ on := 5, ground := Go.Ground.data }, { on := 11, ground := Go.Ground.data }, { on := 4, ground := Go.Ground.guard }], guard := some (4, false) }) (v := ?vBb12) rfl (by kernel_rfl) (by kernel_rfl) (by kernel_rfl) (fun _ _ _ h => h) (Or.inl ⟨by rfl, ?yBb12⟩) (by assumption) ?rBb12
              case yBb12 => (intro w hSw; obtain ⟨s1, s2, s3, s4⟩ := hSw; go_simp; try with_reducible rfl)
              try simp only [Act.put, List.setIfInBounds_toArray, List.set_cons_zero, List.set_cons_succ]
              refine wpAnyH_take (i := 13) (oi := { dst := some 79, op := Go.Op.move (Go.Operand.tmp 78), type := 4, pos := "law.go:56", after := #[{ on := 12, ground := Go.Ground.data }, { on := 4, ground := Go.Ground.chain }, { on := 4, ground := Go.Ground.guard }], guard := some (4, false) }) (v := ?vBb13) rfl (by kernel_rfl) (by kernel_rfl) (by kernel_rfl) (fun _ _ _ h => h) (Or.inl ⟨by rfl, ?yBb13⟩) (by assumption) ?rBb13
              case yBb13 => (intro w hSw; obtain ⟨s1, s2, s3, s4⟩ := hSw; go_simp; try with_reducible rfl)
              try simp only [Act.put, List.setIfInBounds_toArray, List.set_cons_zero, List.set_cons_succ]
              refine wpAnyH_take (i := 14) (oi := { dst := some 80, op := Go.Op.load 27 (Go.Operand.tmp 4), type := 27, pos := "law.go:56", after := #[{ on := 13, ground := Go.Ground.guard }], guard := some (13, true) }) (v := undef) rfl (by kernel_rfl) (by kernel_rfl) (by kernel_rfl) (fun _ _ _ h => h) (Or.inr ⟨by rfl, rfl⟩) (by assumption) ?_
              try simp only [Act.put, List.setIfInBounds_toArray, List.set_cons_zero, List.set_cons_succ]
              refine wpAnyH_take (i := 15) (oi := { dst := some 81, op := Go.Op.move (Go.Operand.tmp 11), type := 3, pos := "law.go:56", after := #[{ on := 13, ground := Go.Ground.guard }], guard := some (13, true) }) (v := undef) rfl (by kernel_rfl) (by kernel_rfl) (by kernel_rfl) (fun _ _ _ h => h) (Or.inr ⟨by rfl, rfl⟩) (by assumption) ?_
              try simp only [Act.put, List.setIfInBounds_toArray, List.set_cons_zero, List.set_cons_succ]
              refine wpAnyH_take (i := 16) (oi := { dst := some 82, op := Go.Op.call { callee := Go.Callee.value (Go.Operand.func 8), args := #[Go.Operand.tmp 80, Go.Operand.tmp 81], argTypes := #[27, 3] }, type := 3, pos := "law.go:56", after := #[{ on := 14, ground := Go.Ground.data }, { on := 15, ground := Go.Ground.data }, { on := 13, ground := Go.Ground.chain }, { on := 13, ground := Go.Ground.guard }], guard := some (13, true) }) (v := undef) rfl (by kernel_rfl) (by kernel_rfl) (by kernel_rfl) (fun _ _ _ h => h) (Or.inr ⟨by rfl, rfl⟩) (by assumption) ?_
              try simp only [Act.put, List.setIfInBounds_toArray, List.set_cons_zero, List.set_cons_succ]
              refine wpAnyH_take (i := 17) (oi := { dst := some 83, op := Go.Op.move (Go.Operand.tmp 3), type := 25, pos := "law.go:56", after := #[{ on := 13, ground := Go.Ground.guard }], guard := some (13, true) }) (v := undef) rfl (by kernel_rfl) (by kernel_rfl) (by kernel_rfl) (fun _ _ _ h => h) (Or.inr ⟨by rfl, rfl⟩) (by assumption) ?_
              try simp only [Act.put, List.setIfInBounds_toArray, List.set_cons_zero, List.set_cons_succ]
              refine wpAnyH_take (i := 18) (oi := { dst := some 84, op := Go.Op.move (Go.Operand.tmp 12), type := 3, pos := "law.go:56", after := #[{ on := 13, ground := Go.Ground.guard }], guard := some (13, true) }) (v := undef) rfl (by kernel_rfl) (by kernel_rfl) (by kernel_rfl) (fun _ _ _ h => h) (Or.inr ⟨by rfl, rfl⟩) (by assumption) ?_
              try simp only [Act.put, List.setIfInBounds_toArray, List.set_cons_zero, List.set_cons_succ]
              refine wpAnyH_take (i := 19) (oi := { dst := some 85, op := Go.Op.indexAddr 25 (Go.Operand.tmp 83) (Go.Operand.tmp 84), type := 0, pos := "law.go:56", after := #[{ on := 17, ground := Go.Ground.data }, { on := 18, ground := Go.Ground.data }, { on := 13, ground := Go.Ground.guard }], guard := some (13, true) }) (v := undef) rfl (by kernel_rfl) (by kernel_rfl) (by kernel_rfl) (fun _ _ _ h => h) (Or.inr ⟨by rfl, rfl⟩) (by assumption) ?_
              try simp only [Act.put, List.setIfInBounds_toArray, List.set_cons_zero, List.set_cons_succ]
              refine wpAnyH_take (i := 20) (oi := { dst := some 86, op := Go.Op.fieldAddr 46 (Go.Operand.tmp 85) 0, type := 0, pos := "law.go:56", after := #[{ on := 19, ground := Go.Ground.data }, { on := 13, ground := Go.Ground.guard }], guard := some (13, true) }) (v := undef) rfl (by kernel_rfl) (by kernel_rfl) (by kernel_rfl) (fun _ _ _ h => h) (Or.inr ⟨by rfl, rfl⟩) (by assumption) ?_
              try simp only [Act.put, List.setIfInBounds_toArray, List.set_cons_zero, List.set_cons_succ]
              refine wpAnyH_take (i := 21) (oi := { dst := some 87, op := Go.Op.load 3 (Go.Operand.tmp 86), type := 3, pos := "law.go:56", after := #[{ on := 20, ground := Go.Ground.data }, { on := 13, ground := Go.Ground.guard }], guard := some (13, true) }) (v := undef) rfl (by kernel_rfl) (by kernel_rfl) (by kernel_rfl) (fun _ _ _ h => h) (Or.inr ⟨by rfl, rfl⟩) (by assumption) ?_
              try simp only [Act.put, List.setIfInBounds_toArray, List.set_cons_zero, List.set_cons_succ]
              refine wpAnyH_take (i := 22) (oi := { dst := some 88, op := Go.Op.binOp Go.BinOp.eql 3 (Go.Operand.tmp 82) (Go.Operand.tmp 87) 3, type := 4, pos := "law.go:56", after := #[{ on := 16, ground := Go.Ground.data }, { on := 21, ground := Go.Ground.data }, { on := 13, ground := Go.Ground.guard }], guard := some (13, true) }) (v := undef) rfl (by kernel_rfl) (by kernel_rfl) (by kernel_rfl) (fun _ _ _ h => h) (Or.inr ⟨by rfl, rfl⟩) (by assumption) ?_
              try simp only [Act.put, List.setIfInBounds_toArray, List.set_cons_zero, List.set_cons_succ]
              refine wpAnyH_take (i := 23) (oi := { dst := some 89, op := Go.Op.pick (Go.Operand.tmp 79) (Go.Operand.tmp 88) (Go.Operand.const (Go.Value.bool false)), type := 4, pos := "law.go:56", after := #[{ on := 13, ground := Go.Ground.data }, { on := 22, ground := Go.Ground.data }, { on := 4, ground := Go.Ground.guard }], guard := some (4, false) }) (v := ?vBb23) rfl (by kernel_rfl) (by kernel_rfl) (by kernel_rfl) (fun _ _ _ h => h) (Or.inl ⟨by rfl, ?yBb23⟩) (by assumption) ?rBb23
              case yBb23 => (intro w hSw; obtain ⟨s1, s2, s3, s4⟩ := hSw; go_simp; try with_reducible rfl)
              try simp only [Act.put, List.setIfInBounds_toArray, List.set_cons_zero, List.set_cons_succ]
              refine wpAnyH_take (i := 24) (oi := { dst := some 90, op := Go.Op.pick (Go.Operand.tmp 70) (Go.Operand.const (Go.Value.bool true)) (Go.Operand.tmp 89), type := 4, pos := "law.go:56", after := #[{ on := 4, ground := Go.Ground.data }, { on := 23, ground := Go.Ground.data }], guard := none }) (v := ?vBb24) rfl (by kernel_rfl) (by kernel_rfl) (by kernel_rfl) (fun _ _ _ h => h) (Or.inl ⟨by rfl, ?yBb24⟩) (by assumption) ?rBb24
              case yBb24 => (intro w hSw; obtain ⟨s1, s2, s3, s4⟩ := hSw; go_simp; try with_reducible rfl)
              try simp only [Act.put, List.setIfInBounds_toArray, List.set_cons_zero, List.set_cons_succ]
              refine wpAnyH_done (by kernel_rfl) ?_ _
              go_wp2_with fail
              go_meet
              exact ⟨rfl, below_drew' (Below.refl _ _)⟩
        case rest =>
          obtain ⟨rfl, hbw⟩ := hcut
          obtain ⟨W2, hW2⟩ : ∃ W2, W2 = wc := ⟨_, rfl⟩
          subst hW2
          have hx3 := below_at hbw (lt_heap HQ.out.1) HQ.out.1
          have hy3 := below_at hbw (lt_heap HQ.out.2.1) HQ.out.2.1
          have hb3 : Below w.heap.size w W2 := HQ.out.2.2.trans (hbw.mono HQ.out.2.2.size)
          have hel3 := HE.out.1.below hbw
          obtain ⟨kk, hkk⟩ : ∃ kk, k0 + (j - d) = kk := ⟨_, rfl⟩
          rw [hkk] at HSTEP HSTAY HLK
          cases stay
          case true =>
            have hlay : d ≤ j → ms'.map EN.k = layK (ms'.map EN.k) kk e.k := fun h => by
              have h1 := HSTAY.out
              rw [show decide (j < d) = false by simpa using h, Bool.false_or, Bool.and_eq_true, decide_eq_true_eq, beq_iff_eq] at h1
              unfold layK
              rw [if_pos ⟨by rw [List.length_map, HE.out.2.1]; exact h1.1, by rw [List.map_map]; exact h1.2⟩]
            have HF := Lib.hid (show MRel B T (ms.map EN.k) k0 d ms es (.slice va m vc) w X (j + 1) W2 from ⟨_, ms', hx3, hy3, hel3, HSTEP.out _ hlay (fun _ => rfl), HE.out.2.2.1, HE.out.2.2.2.1, hb3⟩)
            clear hx3 hy3 hb3 hel3 hlay hbw
            go_wp2_with fail
            go_roundw
            case rel => exact ⟨j + 1, K, by omega, rfl, by go_num, HF⟩
            case measure => simp [intOf]; omega
          case false =>
            have hdj : d ≤ j := by
              have h1 := HSTAY.out
              rcases Nat.lt_or_ge j d with h | h
              · rw [show decide (j < d) = true by simpa using h] at h1; simp at h1
              · exact h
            have hnl : ¬ (kk < L ∧ ((ms'.map EN.t).getD kk 0) = e.t) := fun h => by
              have h1 := HSTAY.out
              rw [show decide (kk < L) = true by simpa using h.1, show ((ms'.map EN.t).getD kk 0 == e.t) = true by simpa using h.2] at h1
              simp at h1
            have hkL : kk ≤ L := HLK.out.1 hdj
            have hlay : ∀ f : EN, f.k = e.k → (ms'.take kk ++ [f]).map EN.k = layK (ms'.map EN.k) kk e.k := fun f hf => by
              unfold layK
              rw [if_neg (fun h => hnl ⟨by have := h.1; rw [List.length_map, HE.out.2.1] at this; exact this, by have := h.2; rw [List.map_map] at this; exact this⟩)]
              simp [List.map_take, hf]
            have hkq : (kk : Int) ≤ wq := by have := HLK.out.2.1; omega
            have hkL2 : (kk : Int) ≤ L := by omega
            have a0 : K - 1 - B = kk := by have := HKK.out.2; omega
            have a1 : IntKind.i64.wrap (K - 1) = K - 1 := by rw [IntKind.wrap_i64]; omega
            have a2 : IntKind.i64.wrap (K - 1 - B) = kk := by rw [IntKind.wrap_i64]; omega
            have a3 : max (kk : Int) 0 = kk := by omega
            have a4 : min (kk : Int) (L : Int) = kk := by omega
            have a5 : ¬ ((kk : Int) < 0) := by omega
            have a6 : ¬ ((L : Int) < kk) := by omega
            have hsr := sr_take hel3 HE.out.2.1 kk hkL
            have hs2 : MS2 X B (.slice wa L wq) bu (ou + j * 7) e W2 := ⟨cell_atD hx3 0 rfl, cell_atD hx3 2 rfl, fun k u hu => (hbw.cell (World.block_lt_of_cell? wr _ (HE.out.2.2.2.2.2 k u hu))).trans (HE.out.2.2.2.2.2 k u hu)⟩
            have HS2 := Lib.hid hs2
            have HSR := Lib.hid hsr
            have H3 := Lib.hid (And.intro hx3 (And.intro hy3 (And.intro hb3 (And.intro hel3 hlay))))
            have hmq := HLK.out.2.2
            clear hx3 hy3 hb3 hel3 hlay hsr hs2 hbw hnl a0
            go_upto_region 11 with fail
            have hxl := lt_heap H3.out.1
            have hleaf : ∀ (wz : World) (x2 : Value), wz.ownsRow W2.heap.size 46 7 x2 (kk + 1) (enCells (ms'.take kk) ++ enCells [e]) → Below W2.heap.size W2 wz → MRel B T (ms.map EN.k) k0 d ms es (.slice va m vc) w X (j + 1) (wz.setCell ⟨X, 2, none⟩ x2) := fun wz x2 ho hb => by
              have hz := below_at hb hxl H3.out.1
              have hz1 : (wz.setCell ⟨X, 2, none⟩ x2).heap[X]? = some (.cells #[.int .i64 B, .int .i64 T, x2] 27) := heap_set_self hz 2 _
              have hso : ∀ b, b ≠ X → (wz.setCell ⟨X, 2, none⟩ x2).heap[b]? = wz.heap[b]? := fun b hb => heap_setCell_other _ _ _ _ hb
              have hro := row_otherE ho hz (by decide)
              have ho2 : (wz.setCell ⟨X, 2, none⟩ x2).ownsRow W2.heap.size 46 7 x2 (kk + 1) (enCells (ms'.take kk ++ [e])) := by
                rw [← enCells_append]
                exact own_moveN ho fun b hb => hso b (fun q => hro (by rw [hb, q]))
              refine ⟨x2, ms'.take kk ++ [e], hz1, (hso _ (by omega)).trans (below_at hb (lt_heap H3.out.2.1) H3.out.2.1), elts_of_sr (SR.owns ho2) (by rw [List.length_append, List.length_take, HE.out.2.1, Nat.min_eq_left hkL]; rfl), HSTEP.out _ (fun _ => H3.out.2.2.2.2 e rfl) (fun h => absurd h (by omega)), fun f hf => ?_, .inr fun b hb => ?_, ?_⟩
              · rcases List.mem_append.1 hf with q | q
                · exact HE.out.2.2.1 f (List.mem_of_mem_take q)
                · rw [List.mem_singleton.1 q]; exact .inr (List.mem_of_getElem? HE.out.2.2.2.2.1)
              · have h1 := (ho.lt b hb).1
                have h2 := lt_heap H3.out.2.1
                omega
              · exact (H3.out.2.2.1.trans (hb.mono H3.out.2.2.1.size)).setCell (by show w.heap.size ≤ X; omega) _
            have HLEAF := Lib.hid hleaf
            have hbX : bu ≠ X := by
              have h := HE.out.2.2.2.2.2 0 _ rfl
              intro q
              have h2 := HBU.out
              omega
            clear hleaf
            have HB := Lib.hid (show Below W2.heap.size W2 W2.drew from below_drew' (Below.refl _ _))
            obtain ⟨v0, hv0⟩ : ∃ v0, v0 = W2.drew := ⟨_, rfl⟩
            refine goes_start (S := MS2 X B (.slice wa L wq) bu (ou + j * 7) e) (by kernel_rfl) HS2.out (fun hHeld => ?_)
            refine goes_take (i := 1) (oi := { dst := some 92, op := Go.Op.fieldAddr 27 (Go.Operand.tmp 4) 2, type := 0, pos := "law.go:59", after := #[], guard := none }) (v := ?vBd1) rfl (by kernel_rfl) (by kernel_rfl) (by kernel_rfl) (fun _ _ _ h => h) (Or.inl ⟨by rfl, ?yBd1⟩) (by assumption) ?rBd1
            case yBd1 => (intro w hSw; obtain ⟨s1, s2, s3⟩ := hSw; go_simp; try with_reducible rfl)
            try simp only [Act.put, List.setIfInBounds_toArray, List.set_cons_zero, List.set_cons_succ]
            refine goes_take (i := 2) (oi := { dst := some 93, op := Go.Op.load 25 (Go.Operand.tmp 92), type := 25, pos := "law.go:59", after := #[{ on := 1, ground := Go.Ground.data }], guard := none }) (v := ?vBd2) rfl (by kernel_rfl) (by kernel_rfl) (by kernel_rfl) (fun _ _ _ h => h) (Or.inl ⟨by rfl, ?yBd2⟩) (by assumption) ?rBd2
            case yBd2 => (intro w hSw; obtain ⟨s1, s2, s3⟩ := hSw; go_simp; try with_reducible rfl)
            try simp only [Act.put, List.setIfInBounds_toArray, List.set_cons_zero, List.set_cons_succ]
            refine goes_take (i := 3) (oi := { dst := some 94, op := Go.Op.move (Go.Operand.tmp 11), type := 3, pos := "law.go:59", after := #[], guard := none }) (v := ?vBd3) rfl (by kernel_rfl) (by kernel_rfl) (by kernel_rfl) (fun _ _ _ h => h) (Or.inl ⟨by rfl, ?yBd3⟩) (by assumption) ?rBd3
            case yBd3 => (intro w hSw; obtain ⟨s1, s2, s3⟩ := hSw; go_simp; try with_reducible rfl)
            try simp only [Act.put, List.setIfInBounds_toArray, List.set_cons_zero, List.set_cons_succ]
            refine goes_take (i := 4) (oi := { dst := some 95, op := Go.Op.binOp Go.BinOp.sub 3 (Go.Operand.tmp 94) (Go.Operand.const (Go.Value.int Go.IntKind.i64 1)) 3, type := 3, pos := "law.go:59", after := #[{ on := 3, ground := Go.Ground.data }], guard := none }) (v := ?vBd4) rfl (by kernel_rfl) (by kernel_rfl) (by kernel_rfl) (fun _ _ _ h => h) (Or.inl ⟨by rfl, ?yBd4⟩) (by assumption) ?rBd4
            case yBd4 => (intro w hSw; obtain ⟨s1, s2, s3⟩ := hSw; go_simp; try with_reducible rfl)
            try simp only [Act.put, List.setIfInBounds_toArray, List.set_cons_zero, List.set_cons_succ]
            refine goes_take (i := 5) (oi := { dst := some 96, op := Go.Op.fieldAddr 27 (Go.Operand.tmp 4) 0, type := 0, pos := "law.go:59", after := #[], guard := none }) (v := ?vBd5) rfl (by kernel_rfl) (by kernel_rfl) (by kernel_rfl) (fun _ _ _ h => h) (Or.inl ⟨by rfl, ?yBd5⟩) (by assumption) ?rBd5
            case yBd5 => (intro w hSw; obtain ⟨s1, s2, s3⟩ := hSw; go_simp; try with_reducible rfl)
            try simp only [Act.put, List.setIfInBounds_toArray, List.set_cons_zero, List.set_cons_succ]
            refine goes_take (i := 6) (oi := { dst := some 97, op := Go.Op.load 3 (Go.Operand.tmp 96), type := 3, pos := "law.go:59", after := #[{ on := 5, ground := Go.Ground.data }], guard := none }) (v := ?vBd6) rfl (by kernel_rfl) (by kernel_rfl) (by kernel_rfl) (fun _ _ _ h => h) (Or.inl ⟨by rfl, ?yBd6⟩) (by assumption) ?rBd6
            case yBd6 => (intro w hSw; obtain ⟨s1, s2, s3⟩ := hSw; go_simp; try with_reducible rfl)
            try simp only [Act.put, List.setIfInBounds_toArray, List.set_cons_zero, List.set_cons_succ]
            refine goes_take (i := 7) (oi := { dst := some 98, op := Go.Op.binOp Go.BinOp.sub 3 (Go.Operand.tmp 95) (Go.Operand.tmp 97) 3, type := 3, pos := "law.go:59", after := #[{ on := 4, ground := Go.Ground.data }, { on := 6, ground := Go.Ground.data }], guard := none }) (v := ?vBd7) rfl (by kernel_rfl) (by kernel_rfl) (by kernel_rfl) (fun _ _ _ h => h) (Or.inl ⟨by rfl, ?yBd7⟩) (by assumption) ?rBd7
            case yBd7 => (intro w hSw; obtain ⟨s1, s2, s3⟩ := hSw; go_simp; try with_reducible rfl)
            try simp only [Act.put, List.setIfInBounds_toArray, List.set_cons_zero, List.set_cons_succ]
            refine goes_take (i := 8) (oi := { dst := some 99, op := Go.Op.call { callee := Go.Callee.builtin Go.Builtin.max, args := #[Go.Operand.tmp 98, Go.Operand.const (Go.Value.int Go.IntKind.i64 0)], argTypes := #[3, 3] }, type := 3, pos := "law.go:59", after := #[{ on := 7, ground := Go.Ground.data }], guard := none }) (v := ?vBd8) rfl (by kernel_rfl) (by kernel_rfl) (by kernel_rfl) (fun _ _ _ h => h) (Or.inl ⟨by rfl, ?yBd8⟩) (by assumption) ?rBd8
            case yBd8 => (intro w hSw; obtain ⟨s1, s2, s3⟩ := hSw; go_simp; try with_reducible rfl)
            try simp only [Act.put, List.setIfInBounds_toArray, List.set_cons_zero, List.set_cons_succ]
            refine goes_take (i := 9) (oi := { dst := some 100, op := Go.Op.fieldAddr 27 (Go.Operand.tmp 4) 2, type := 0, pos := "law.go:59", after := #[], guard := none }) (v := ?vBd9) rfl (by kernel_rfl) (by kernel_rfl) (by kernel_rfl) (fun _ _ _ h => h) (Or.inl ⟨by rfl, ?yBd9⟩) (by assumption) ?rBd9
            case yBd9 => (intro w hSw; obtain ⟨s1, s2, s3⟩ := hSw; go_simp; try with_reducible rfl)
            try simp only [Act.put, List.setIfInBounds_toArray, List.set_cons_zero, List.set_cons_succ]
            refine goes_take (i := 10) (oi := { dst := some 101, op := Go.Op.load 25 (Go.Operand.tmp 100), type := 25, pos := "law.go:59", after := #[{ on := 9, ground := Go.Ground.data }], guard := none }) (v := ?vBd10) rfl (by kernel_rfl) (by kernel_rfl) (by kernel_rfl) (fun _ _ _ h => h) (Or.inl ⟨by rfl, ?yBd10⟩) (by assumption) ?rBd10
            case yBd10 => (intro w hSw; obtain ⟨s1, s2, s3⟩ := hSw; go_simp; try with_reducible rfl)
            try simp only [Act.put, List.setIfInBounds_toArray, List.set_cons_zero, List.set_cons_succ]
            refine goes_take (i := 11) (oi := { dst := some 102, op := Go.Op.call { callee := Go.Callee.builtin Go.Builtin.len, args := #[Go.Operand.tmp 101], argTypes := #[25] }, type := 3, pos := "law.go:59", after := #[{ on := 10, ground := Go.Ground.data }], guard := none }) (v := ?vBd11) rfl (by kernel_rfl) (by kernel_rfl) (by kernel_rfl) (fun _ _ _ h => h) (Or.inl ⟨by rfl, ?yBd11⟩) (by assumption) ?rBd11
            case yBd11 => (intro w hSw; obtain ⟨s1, s2, s3⟩ := hSw; go_simp; try with_reducible rfl)
            try simp only [Act.put, List.setIfInBounds_toArray, List.set_cons_zero, List.set_cons_succ]
            refine goes_take (i := 12) (oi := { dst := some 103, op := Go.Op.call { callee := Go.Callee.builtin Go.Builtin.min, args := #[Go.Operand.tmp 99, Go.Operand.tmp 102], argTypes := #[3, 3] }, type := 3, pos := "law.go:59", after := #[{ on := 8, ground := Go.Ground.data }, { on := 11, ground := Go.Ground.data }], guard := none }) (v := ?vBd12) rfl (by kernel_rfl) (by kernel_rfl) (by kernel_rfl) (fun _ _ _ h => h) (Or.inl ⟨by rfl, ?yBd12⟩) (by assumption) ?rBd12
            case yBd12 => (intro w hSw; obtain ⟨s1, s2, s3⟩ := hSw; go_simp; try with_reducible rfl)
            try simp only [Act.put, List.setIfInBounds_toArray, List.set_cons_zero, List.set_cons_succ]
            refine goes_take (i := 13) (oi := { dst := some 104, op := Go.Op.slice 25 (Go.Operand.tmp 93) none (some (Go.Operand.tmp 103)) none, type := 25, pos := "law.go:59", after := #[{ on := 2, ground := Go.Ground.data }, { on := 12, ground := Go.Ground.data }], guard := none }) (v := ?vBd13) rfl (by kernel_rfl) (by kernel_rfl) (by kernel_rfl) (fun _ _ _ h => h) (Or.inl ⟨by rfl, ?yBd13⟩) (by assumption) ?rBd13
            case yBd13 => (intro w hSw; obtain ⟨s1, s2, s3⟩ := hSw; go_simp; try with_reducible rfl)
            try simp only [Act.put, List.setIfInBounds_toArray, List.set_cons_zero, List.set_cons_succ]
            refine goes_take (i := 15) (oi := { dst := some 106, op := Go.Op.move (Go.Operand.tmp 3), type := 25, pos := "law.go:59", after := #[], guard := none }) (v := ?vBd15) rfl (by kernel_rfl) (by kernel_rfl) (by kernel_rfl) (fun _ _ _ h => h) (Or.inl ⟨by rfl, ?yBd15⟩) (by assumption) ?rBd15
            case yBd15 => (intro w hSw; obtain ⟨s1, s2, s3⟩ := hSw; go_simp; try with_reducible rfl)
            try simp only [Act.put, List.setIfInBounds_toArray, List.set_cons_zero, List.set_cons_succ]
            refine goes_take (i := 16) (oi := { dst := some 107, op := Go.Op.move (Go.Operand.tmp 12), type := 3, pos := "law.go:59", after := #[], guard := none }) (v := ?vBd16) rfl (by kernel_rfl) (by kernel_rfl) (by kernel_rfl) (fun _ _ _ h => h) (Or.inl ⟨by rfl, ?yBd16⟩) (by assumption) ?rBd16
            case yBd16 => (intro w hSw; obtain ⟨s1, s2, s3⟩ := hSw; go_simp; try with_reducible rfl)
            try simp only [Act.put, List.setIfInBounds_toArray, List.set_cons_zero, List.set_cons_succ]
            refine goes_take (i := 17) (oi := { dst := some 108, op := Go.Op.indexAddr 25 (Go.Operand.tmp 106) (Go.Operand.tmp 107), type := 0, pos := "law.go:59", after := #[{ on := 15, ground := Go.Ground.data }, { on := 16, ground := Go.Ground.data }], guard := none }) (v := ?vBd17) rfl (by kernel_rfl) (by kernel_rfl) (by kernel_rfl) (fun _ _ _ h => h) (Or.inl ⟨by rfl, ?yBd17⟩) (by assumption) ?rBd17
            case yBd17 => (intro w hSw; obtain ⟨s1, s2, s3⟩ := hSw; go_simp; try with_reducible rfl)
            try simp only [Act.put, List.setIfInBounds_toArray, List.set_cons_zero, List.set_cons_succ]
            refine goes_take (i := 18) (oi := { dst := some 109, op := Go.Op.load 46 (Go.Operand.tmp 108), type := 46, pos := "law.go:59", after := #[{ on := 17, ground := Go.Ground.data }], guard := none }) (v := ?vBd18) rfl (by kernel_rfl) (by kernel_rfl) (by kernel_rfl) (fun _ _ _ h => h) (Or.inl ⟨by rfl, ?yBd18⟩) (by assumption) ?rBd18
            case yBd18 => (intro w hSw; obtain ⟨s1, s2, s3⟩ := hSw; (have s30 : w.cell? ⟨bu, ou + j * 7, none⟩ = some (.int .i64 e.t) := s3 0 _ rfl); (have s31 : w.cell? ⟨bu, ou + j * 7 + 1, none⟩ = some (.int .i64 e.x) := s3 1 _ rfl); (have s32 : w.cell? ⟨bu, ou + j * 7 + 2, none⟩ = some (.int .i64 e.c.e) := s3 2 _ rfl); (have s33 : w.cell? ⟨bu, ou + j * 7 + 3, none⟩ = some (.int .i64 e.c.b) := s3 3 _ rfl); (have s34 : w.cell? ⟨bu, ou + j * 7 + 4, none⟩ = some (.int .i64 e.c.k) := s3 4 _ rfl); (have s35 : w.cell? ⟨bu, ou + j * 7 + 5, none⟩ = some (.slice e.a1 e.c.M.length e.q1) := s3 5 _ rfl); (have s36 : w.cell? ⟨bu, ou + j * 7 + 6, none⟩ = some (.slice e.a2 e.c.C.length e.q2) := s3 6 _ rfl); go_simp; try with_reducible rfl)
            try simp only [Act.put, List.setIfInBounds_toArray, List.set_cons_zero, List.set_cons_succ]
            rw [← hv0] at HB hHeld ⊢
            clear hv0
            refine goes_ready (rs := [0, 19]) (by kernel_rfl) (by simp) ?_
            refine GoesEach.cons (o := { dst := some 91, op := Go.Op.buildSlice 25 0 #[], type := 25, pos := "law.go:59", after := #[], guard := none }) rfl (fun K hK => ?_) (GoesEach.cons (o := { dst := some 110, op := Go.Op.buildSlice 25 1 #[(0, Go.Operand.tmp 109)], type := 25, pos := "law.go:59", after := #[{ on := 18, ground := Go.Ground.data }], guard := none }) rfl (fun K hK => ?_) GoesEach.nil)
            · rw [if_pos (by kernel_rfl)]
              refine wp_bs0R ?hoB1 Try.underlying25 hi ?hrB1
              case hoB1 => rfl
              have hB := (HB.out.alloc HB.out.size (.cells #[] 46))
              have hO : (v0.alloc (.cells #[] 46)).ownsRow W2.heap.size 46 7 (.slice (some ⟨v0.heap.size, 0, none⟩) 0 0) 0 [] := World.ownsRow_lit (base := W2.heap.size) v0 #[] 0 HB.out.size (by decide) rfl
              refine hK.out _ _ (HS2.out.below hB) (fun hHeld2 => ?_)
              clear hK K hHeld
              have hHeld := hHeld2
              clear hHeld2
              try simp only [Act.put, List.setIfInBounds_toArray, List.set_cons_zero, List.set_cons_succ]
              generalize v0.alloc (.cells #[] 46) = v1 at *
              obtain ⟨E0, hE0⟩ : ∃ E0, v0.heap.size = E0 := ⟨_, rfl⟩
              rw [hE0] at hO ⊢
              have HB2 := Lib.hid hB
              have HO := Lib.hid hO
              clear HB hB hO
              have HB := HB2
              clear HB2
              have HE0 := Lib.hid hE0
              refine goes_ready (rs := [14, 19]) (by kernel_rfl) (by simp) ?_
              refine GoesEach.cons (o := { dst := some 105, op := Go.Op.call { callee := Go.Callee.builtin Go.Builtin.append, args := #[Go.Operand.tmp 91, Go.Operand.tmp 104], argTypes := #[25, 25] }, type := 25, pos := "law.go:59", after := #[{ on := 0, ground := Go.Ground.data }, { on := 13, ground := Go.Ground.data }], guard := none }) rfl (fun K hK => ?_) (GoesEach.cons (o := { dst := some 110, op := Go.Op.buildSlice 25 1 #[(0, Go.Operand.tmp 109)], type := 25, pos := "law.go:59", after := #[{ on := 18, ground := Go.Ground.data }], guard := none }) rfl (fun K hK => ?_) GoesEach.nil)
              · refine step_app Try.underlying25 hi hz0 hz1 hz2 rfl (by decide) rfl (.tmp 91) (.tmp 104) rfl W2.heap.size (.slice (some ⟨E0, 0, none⟩) 0 0) 0 [] (by rfl) HO.out (.slice wa kk wq) kk (enCells (ms'.take kk)) (by rfl) (HSR.out.below HB.out) (enCells_one _) (by unfold maxLen; omega) (by omega) HB.out.size ?_
                intro x1 v2 hown hgr
                have hB : Below W2.heap.size W2 v2 := HB.out.grown hgr HB.out.size (fun k e => (HO.out.lt k e).1)
                refine hK.out _ _ (HS2.out.below hB) (fun hHeld2 => ?_)
                clear hK K hHeld
                have hHeld := hHeld2
                clear hHeld2
                try simp only [Act.put, List.setIfInBounds_toArray, List.set_cons_zero, List.set_cons_succ]
                have HA := Lib.hid (show v2.ownsRow W2.heap.size 46 7 x1 kk (enCells (ms'.take kk)) from by simpa using hown)
                have HB2 := Lib.hid hB
                clear HB hB hown
                have HB := HB2
                clear HB2
                clear hgr
                refine goes_ready (rs := [19]) (by kernel_rfl) (by simp) ?_
                refine GoesEach.cons (o := { dst := some 110, op := Go.Op.buildSlice 25 1 #[(0, Go.Operand.tmp 109)], type := 25, pos := "law.go:59", after := #[{ on := 18, ground := Go.Ground.data }], guard := none }) rfl (fun K hK => ?_) GoesEach.nil
                rw [if_pos (by kernel_rfl)]
                refine wp_bs1R (.tmp 109) ?hoB2 Try.underlying25 hi hz0 hz1 rfl (by decide) (by decide) #[.int .i64 e.t, .int .i64 e.x, .int .i64 e.c.e, .int .i64 e.c.b, .int .i64 e.c.k, .slice e.a1 e.c.M.length e.q1, .slice e.a2 e.c.C.length e.q2] ?hxB2 rfl ?hrB2
                case hoB2 => rfl
                case hxB2 => rfl
                have hB := (HB.out.alloc HB.out.size (.cells #[.int .i64 e.t, .int .i64 e.x, .int .i64 e.c.e, .int .i64 e.c.b, .int .i64 e.c.k, .slice e.a1 e.c.M.length e.q1, .slice e.a2 e.c.C.length e.q2] 46))
                have hLt : SR (v2.alloc (.cells #[.int .i64 e.t, .int .i64 e.x, .int .i64 e.c.e, .int .i64 e.c.b, .int .i64 e.c.k, .slice e.a1 e.c.M.length e.q1, .slice e.a2 e.c.C.length e.q2] 46)) (.slice (some ⟨v2.heap.size, 0, none⟩) 1 1) 7 1 (enCells [e]) := SR.lit v2 _ #[.int .i64 e.t, .int .i64 e.x, .int .i64 e.c.e, .int .i64 e.c.b, .int .i64 e.c.k, .slice e.a1 e.c.M.length e.q1, .slice e.a2 e.c.C.length e.q2] 7 1 (by decide) rfl
                have hlt19 : v2.heap.size < (v2.alloc (.cells #[.int .i64 e.t, .int .i64 e.x, .int .i64 e.c.e, .int .i64 e.c.b, .int .i64 e.c.k, .slice e.a1 e.c.M.length e.q1, .slice e.a2 e.c.C.length e.q2] 46)).heap.size := by simp
                have hA := owns_below HA.out ((Below.refl v2.heap.size v2).alloc (Nat.le_refl _) (.cells #[.int .i64 e.t, .int .i64 e.x, .int .i64 e.c.e, .int .i64 e.c.b, .int .i64 e.c.k, .slice e.a1 e.c.M.length e.q1, .slice e.a2 e.c.C.length e.q2] 46))
                refine hK.out _ _ (HS2.out.below hB) (fun hHeld2 => ?_)
                clear hK K hHeld
                have hHeld := hHeld2
                clear hHeld2
                try simp only [Act.put, List.setIfInBounds_toArray, List.set_cons_zero, List.set_cons_succ]
                generalize v2.alloc (.cells #[.int .i64 e.t, .int .i64 e.x, .int .i64 e.c.e, .int .i64 e.c.b, .int .i64 e.c.k, .slice e.a1 e.c.M.length e.q1, .slice e.a2 e.c.C.length e.q2] 46) = v3 at *
                have HB2 := Lib.hid hB
                clear HB hB
                have HB := HB2
                clear HB2
                obtain ⟨F0, hF0⟩ : ∃ F0, v2.heap.size = F0 := ⟨_, rfl⟩
                rw [hF0] at hLt hlt19 ⊢
                have HLt := Lib.hid (And.intro hLt hlt19)
                clear hLt hlt19
                have HA2 := Lib.hid hA
                clear HA hA
                have HA := HA2
                clear HA2
                refine goes_ready (rs := [20]) (by kernel_rfl) (by simp) ?_
                refine GoesEach.cons (o := { dst := some 111, op := Go.Op.call { callee := Go.Callee.builtin Go.Builtin.append, args := #[Go.Operand.tmp 105, Go.Operand.tmp 110], argTypes := #[25, 25] }, type := 25, pos := "law.go:59", after := #[{ on := 14, ground := Go.Ground.data }, { on := 19, ground := Go.Ground.data }, { on := 14, ground := Go.Ground.chain }], guard := none }) rfl (fun K hK => ?_) GoesEach.nil
                refine step_app Try.underlying25 hi hz0 hz1 hz2 rfl (by decide) rfl (.tmp 105) (.tmp 110) rfl W2.heap.size x1 kk (enCells (ms'.take kk)) (by rfl) HA.out (.slice (some ⟨F0, 0, none⟩) 1 1) 1 (enCells [e]) (by rfl) HLt.out.1 (enCells_one _) (by unfold maxLen; omega) (by omega) HB.out.size ?_
                intro x2 v4 hown hgr
                have hB : Below W2.heap.size W2 v4 := HB.out.grown hgr HB.out.size (fun k e => (HA.out.lt k e).1)
                refine hK.out _ _ (HS2.out.below hB) (fun hHeld2 => ?_)
                clear hK K hHeld
                have hHeld := hHeld2
                clear hHeld2
                try simp only [Act.put, List.setIfInBounds_toArray, List.set_cons_zero, List.set_cons_succ]
                have HF := Lib.hid (And.intro hown hB)
                clear hown hgr HB hB
                refine goes_take (i := 21) (oi := { dst := some 112, op := Go.Op.fieldAddr 27 (Go.Operand.tmp 4) 2, type := 0, pos := "law.go:59", after := #[{ on := 0, ground := Go.Ground.phase }, { on := 1, ground := Go.Ground.phase }, { on := 2, ground := Go.Ground.phase }, { on := 3, ground := Go.Ground.phase }, { on := 4, ground := Go.Ground.phase }, { on := 5, ground := Go.Ground.phase }, { on := 6, ground := Go.Ground.phase }, { on := 7, ground := Go.Ground.phase }, { on := 8, ground := Go.Ground.phase }, { on := 9, ground := Go.Ground.phase }, { on := 10, ground := Go.Ground.phase }, { on := 11, ground := Go.Ground.phase }, { on := 12, ground := Go.Ground.phase }, { on := 13, ground := Go.Ground.phase }, { on := 14, ground := Go.Ground.phase }, { on := 15, ground := Go.Ground.phase }, { on := 16, ground := Go.Ground.phase }, { on := 17, ground := Go.Ground.phase }, { on := 18, ground := Go.Ground.phase }, { on := 19, ground := Go.Ground.phase }, { on := 20, ground := Go.Ground.phase }], guard := none }) (v := ?vBg3_21) rfl (by kernel_rfl) (by kernel_rfl) (by kernel_rfl) (fun _ _ _ h => h) (Or.inl ⟨by rfl, ?yBg3_21⟩) (by assumption) ?rBg3_21
                case yBg3_21 => (intro w hSw; obtain ⟨s1, s2, s3⟩ := hSw; go_simp; try with_reducible rfl)
                try simp only [Act.put, List.setIfInBounds_toArray, List.set_cons_zero, List.set_cons_succ]
                refine goes_ready (rs := [22]) (by kernel_rfl) (by simp) ?_
                refine GoesEach.last (o := { dst := none, op := Go.Op.store 25 (Go.Operand.tmp 112) (Go.Operand.tmp 111), type := 0, pos := "law.go:59", after := #[{ on := 21, ground := Go.Ground.data }, { on := 20, ground := Go.Ground.data }, { on := 20, ground := Go.Ground.chain }, { on := 0, ground := Go.Ground.phase }, { on := 1, ground := Go.Ground.phase }, { on := 2, ground := Go.Ground.phase }, { on := 3, ground := Go.Ground.phase }, { on := 4, ground := Go.Ground.phase }, { on := 5, ground := Go.Ground.phase }, { on := 6, ground := Go.Ground.phase }, { on := 7, ground := Go.Ground.phase }, { on := 8, ground := Go.Ground.phase }, { on := 9, ground := Go.Ground.phase }, { on := 10, ground := Go.Ground.phase }, { on := 11, ground := Go.Ground.phase }, { on := 12, ground := Go.Ground.phase }, { on := 13, ground := Go.Ground.phase }, { on := 14, ground := Go.Ground.phase }, { on := 15, ground := Go.Ground.phase }, { on := 16, ground := Go.Ground.phase }, { on := 17, ground := Go.Ground.phase }, { on := 18, ground := Go.Ground.phase }, { on := 19, ground := Go.Ground.phase }, { on := 20, ground := Go.Ground.phase }], guard := none }) rfl (by kernel_rfl) (fun K hK => ?_)
                obtain ⟨xa, xc, rfl⟩ := owns_form3 HF.out.1
                have hz := below_at HF.out.2 hxl H3.out.1
                have z2 := cell_atD hz 2 (v := .slice wa L wq) rfl
                have zf : v4.frozen? ⟨X, 2, none⟩ = false := by simp [World.frozen?, hz]
                have HM2 := Lib.hid (HLEAF.out _ _ HF.out.1 HF.out.2)
                rw [if_pos (by kernel_rfl)]
                go_simp
                refine hK.out _ _ ?_
                clear hK K z2 zf hz hHeld
                try simp only [Act.put, List.setIfInBounds_toArray, List.set_cons_zero, List.set_cons_succ]
                refine goes_done (by kernel_rfl) ?_ _
                go_wp2_with fail
                go_roundw
                case rel => exact ⟨j + 1, K, by omega, rfl, by go_num, HM2⟩
                case measure => simp [intOf]; omega
              · rw [if_pos (by kernel_rfl)]
                refine wp_bs1R (.tmp 109) ?hoB4 Try.underlying25 hi hz0 hz1 rfl (by decide) (by decide) #[.int .i64 e.t, .int .i64 e.x, .int .i64 e.c.e, .int .i64 e.c.b, .int .i64 e.c.k, .slice e.a1 e.c.M.length e.q1, .slice e.a2 e.c.C.length e.q2] ?hxB4 rfl ?hrB4
                case hoB4 => rfl
                case hxB4 => rfl
                have hB := (HB.out.alloc HB.out.size (.cells #[.int .i64 e.t, .int .i64 e.x, .int .i64 e.c.e, .int .i64 e.c.b, .int .i64 e.c.k, .slice e.a1 e.c.M.length e.q1, .slice e.a2 e.c.C.length e.q2] 46))
                have hLt : SR (v1.alloc (.cells #[.int .i64 e.t, .int .i64 e.x, .int .i64 e.c.e, .int .i64 e.c.b, .int .i64 e.c.k, .slice e.a1 e.c.M.length e.q1, .slice e.a2 e.c.C.length e.q2] 46)) (.slice (some ⟨v1.heap.size, 0, none⟩) 1 1) 7 1 (enCells [e]) := SR.lit v1 _ #[.int .i64 e.t, .int .i64 e.x, .int .i64 e.c.e, .int .i64 e.c.b, .int .i64 e.c.k, .slice e.a1 e.c.M.length e.q1, .slice e.a2 e.c.C.length e.q2] 7 1 (by decide) rfl
                have hlt19 : v1.heap.size < (v1.alloc (.cells #[.int .i64 e.t, .int .i64 e.x, .int .i64 e.c.e, .int .i64 e.c.b, .int .i64 e.c.k, .slice e.a1 e.c.M.length e.q1, .slice e.a2 e.c.C.length e.q2] 46)).heap.size := by simp
                have hO := owns_below HO.out ((Below.refl v1.heap.size v1).alloc (Nat.le_refl _) (.cells #[.int .i64 e.t, .int .i64 e.x, .int .i64 e.c.e, .int .i64 e.c.b, .int .i64 e.c.k, .slice e.a1 e.c.M.length e.q1, .slice e.a2 e.c.C.length e.q2] 46))
                have hne : ∀ b, (Value.slice (some ⟨v1.heap.size, 0, none⟩) 1 1).ownBlock = some b → (Value.slice (some ⟨E0, 0, none⟩) 0 0).ownBlock ≠ some b := fun b h1 h2 => by have e1 := Option.some.inj h1; simp only at e1; have := (HO.out.lt _ h2).2; omega
                refine hK.out _ _ (HS2.out.below hB) (fun hHeld2 => ?_)
                clear hK K hHeld
                have hHeld := hHeld2
                clear hHeld2
                try simp only [Act.put, List.setIfInBounds_toArray, List.set_cons_zero, List.set_cons_succ]
                generalize v1.alloc (.cells #[.int .i64 e.t, .int .i64 e.x, .int .i64 e.c.e, .int .i64 e.c.b, .int .i64 e.c.k, .slice e.a1 e.c.M.length e.q1, .slice e.a2 e.c.C.length e.q2] 46) = v2 at *
                have HB2 := Lib.hid hB
                clear HB hB
                have HB := HB2
                clear HB2
                obtain ⟨F0, hF0⟩ : ∃ F0, v1.heap.size = F0 := ⟨_, rfl⟩
                rw [hF0] at hLt hlt19 hne ⊢
                have HLt := Lib.hid (And.intro hLt hlt19)
                clear hLt hlt19
                have HO2 := Lib.hid hO
                have HNE := Lib.hid hne
                clear HO hO hne
                have HO := HO2
                clear HO2
                refine goes_ready (rs := [14]) (by kernel_rfl) (by simp) ?_
                refine GoesEach.cons (o := { dst := some 105, op := Go.Op.call { callee := Go.Callee.builtin Go.Builtin.append, args := #[Go.Operand.tmp 91, Go.Operand.tmp 104], argTypes := #[25, 25] }, type := 25, pos := "law.go:59", after := #[{ on := 0, ground := Go.Ground.data }, { on := 13, ground := Go.Ground.data }], guard := none }) rfl (fun K hK => ?_) GoesEach.nil
                refine step_app Try.underlying25 hi hz0 hz1 hz2 rfl (by decide) rfl (.tmp 91) (.tmp 104) rfl W2.heap.size (.slice (some ⟨E0, 0, none⟩) 0 0) 0 [] (by rfl) HO.out (.slice wa kk wq) kk (enCells (ms'.take kk)) (by rfl) (HSR.out.below HB.out) (enCells_one _) (by unfold maxLen; omega) (by omega) HB.out.size ?_
                intro x1 v3 hown hgr
                have hB : Below W2.heap.size W2 v3 := HB.out.grown hgr HB.out.size (fun k e => (HO.out.lt k e).1)
                have hLt := sr_grown HLt.out.1 hgr (fun b hb => HNE.out b hb)
                have hlt19 := Nat.lt_of_lt_of_le HLt.out.2 hgr.size
                refine hK.out _ _ (HS2.out.below hB) (fun hHeld2 => ?_)
                clear hK K hHeld
                have hHeld := hHeld2
                clear hHeld2
                try simp only [Act.put, List.setIfInBounds_toArray, List.set_cons_zero, List.set_cons_succ]
                have HA := Lib.hid (show v3.ownsRow W2.heap.size 46 7 x1 kk (enCells (ms'.take kk)) from by simpa using hown)
                have HB2 := Lib.hid hB
                clear HB hB hown
                have HB := HB2
                clear HB2
                have HLt2 := Lib.hid (And.intro hLt hlt19)
                clear HLt hLt hlt19
                have HLt := HLt2
                clear HLt2
                clear hgr
                refine goes_ready (rs := [20]) (by kernel_rfl) (by simp) ?_
                refine GoesEach.cons (o := { dst := some 111, op := Go.Op.call { callee := Go.Callee.builtin Go.Builtin.append, args := #[Go.Operand.tmp 105, Go.Operand.tmp 110], argTypes := #[25, 25] }, type := 25, pos := "law.go:59", after := #[{ on := 14, ground := Go.Ground.data }, { on := 19, ground := Go.Ground.data }, { on := 14, ground := Go.Ground.chain }], guard := none }) rfl (fun K hK => ?_) GoesEach.nil
                refine step_app Try.underlying25 hi hz0 hz1 hz2 rfl (by decide) rfl (.tmp 105) (.tmp 110) rfl W2.heap.size x1 kk (enCells (ms'.take kk)) (by rfl) HA.out (.slice (some ⟨F0, 0, none⟩) 1 1) 1 (enCells [e]) (by rfl) HLt.out.1 (enCells_one _) (by unfold maxLen; omega) (by omega) HB.out.size ?_
                intro x2 v4 hown hgr
                have hB : Below W2.heap.size W2 v4 := HB.out.grown hgr HB.out.size (fun k e => (HA.out.lt k e).1)
                refine hK.out _ _ (HS2.out.below hB) (fun hHeld2 => ?_)
                clear hK K hHeld
                have hHeld := hHeld2
                clear hHeld2
                try simp only [Act.put, List.setIfInBounds_toArray, List.set_cons_zero, List.set_cons_succ]
                have HF := Lib.hid (And.intro hown hB)
                clear hown hgr HB hB
                refine goes_take (i := 21) (oi := { dst := some 112, op := Go.Op.fieldAddr 27 (Go.Operand.tmp 4) 2, type := 0, pos := "law.go:59", after := #[{ on := 0, ground := Go.Ground.phase }, { on := 1, ground := Go.Ground.phase }, { on := 2, ground := Go.Ground.phase }, { on := 3, ground := Go.Ground.phase }, { on := 4, ground := Go.Ground.phase }, { on := 5, ground := Go.Ground.phase }, { on := 6, ground := Go.Ground.phase }, { on := 7, ground := Go.Ground.phase }, { on := 8, ground := Go.Ground.phase }, { on := 9, ground := Go.Ground.phase }, { on := 10, ground := Go.Ground.phase }, { on := 11, ground := Go.Ground.phase }, { on := 12, ground := Go.Ground.phase }, { on := 13, ground := Go.Ground.phase }, { on := 14, ground := Go.Ground.phase }, { on := 15, ground := Go.Ground.phase }, { on := 16, ground := Go.Ground.phase }, { on := 17, ground := Go.Ground.phase }, { on := 18, ground := Go.Ground.phase }, { on := 19, ground := Go.Ground.phase }, { on := 20, ground := Go.Ground.phase }], guard := none }) (v := ?vBg5_21) rfl (by kernel_rfl) (by kernel_rfl) (by kernel_rfl) (fun _ _ _ h => h) (Or.inl ⟨by rfl, ?yBg5_21⟩) (by assumption) ?rBg5_21
                case yBg5_21 => (intro w hSw; obtain ⟨s1, s2, s3⟩ := hSw; go_simp; try with_reducible rfl)
                try simp only [Act.put, List.setIfInBounds_toArray, List.set_cons_zero, List.set_cons_succ]
                refine goes_ready (rs := [22]) (by kernel_rfl) (by simp) ?_
                refine GoesEach.last (o := { dst := none, op := Go.Op.store 25 (Go.Operand.tmp 112) (Go.Operand.tmp 111), type := 0, pos := "law.go:59", after := #[{ on := 21, ground := Go.Ground.data }, { on := 20, ground := Go.Ground.data }, { on := 20, ground := Go.Ground.chain }, { on := 0, ground := Go.Ground.phase }, { on := 1, ground := Go.Ground.phase }, { on := 2, ground := Go.Ground.phase }, { on := 3, ground := Go.Ground.phase }, { on := 4, ground := Go.Ground.phase }, { on := 5, ground := Go.Ground.phase }, { on := 6, ground := Go.Ground.phase }, { on := 7, ground := Go.Ground.phase }, { on := 8, ground := Go.Ground.phase }, { on := 9, ground := Go.Ground.phase }, { on := 10, ground := Go.Ground.phase }, { on := 11, ground := Go.Ground.phase }, { on := 12, ground := Go.Ground.phase }, { on := 13, ground := Go.Ground.phase }, { on := 14, ground := Go.Ground.phase }, { on := 15, ground := Go.Ground.phase }, { on := 16, ground := Go.Ground.phase }, { on := 17, ground := Go.Ground.phase }, { on := 18, ground := Go.Ground.phase }, { on := 19, ground := Go.Ground.phase }, { on := 20, ground := Go.Ground.phase }], guard := none }) rfl (by kernel_rfl) (fun K hK => ?_)
                obtain ⟨xa, xc, rfl⟩ := owns_form3 HF.out.1
                have hz := below_at HF.out.2 hxl H3.out.1
                have z2 := cell_atD hz 2 (v := .slice wa L wq) rfl
                have zf : v4.frozen? ⟨X, 2, none⟩ = false := by simp [World.frozen?, hz]
                have HM2 := Lib.hid (HLEAF.out _ _ HF.out.1 HF.out.2)
                rw [if_pos (by kernel_rfl)]
                go_simp
                refine hK.out _ _ ?_
                clear hK K z2 zf hz hHeld
                try simp only [Act.put, List.setIfInBounds_toArray, List.set_cons_zero, List.set_cons_succ]
                refine goes_done (by kernel_rfl) ?_ _
                go_wp2_with fail
                go_roundw
                case rel => exact ⟨j + 1, K, by omega, rfl, by go_num, HM2⟩
                case measure => simp [intOf]; omega
            · rw [if_pos (by kernel_rfl)]
              refine wp_bs1R (.tmp 109) ?hoB6 Try.underlying25 hi hz0 hz1 rfl (by decide) (by decide) #[.int .i64 e.t, .int .i64 e.x, .int .i64 e.c.e, .int .i64 e.c.b, .int .i64 e.c.k, .slice e.a1 e.c.M.length e.q1, .slice e.a2 e.c.C.length e.q2] ?hxB6 rfl ?hrB6
              case hoB6 => rfl
              case hxB6 => rfl
              have hB := (HB.out.alloc HB.out.size (.cells #[.int .i64 e.t, .int .i64 e.x, .int .i64 e.c.e, .int .i64 e.c.b, .int .i64 e.c.k, .slice e.a1 e.c.M.length e.q1, .slice e.a2 e.c.C.length e.q2] 46))
              have hLt : SR (v0.alloc (.cells #[.int .i64 e.t, .int .i64 e.x, .int .i64 e.c.e, .int .i64 e.c.b, .int .i64 e.c.k, .slice e.a1 e.c.M.length e.q1, .slice e.a2 e.c.C.length e.q2] 46)) (.slice (some ⟨v0.heap.size, 0, none⟩) 1 1) 7 1 (enCells [e]) := SR.lit v0 _ #[.int .i64 e.t, .int .i64 e.x, .int .i64 e.c.e, .int .i64 e.c.b, .int .i64 e.c.k, .slice e.a1 e.c.M.length e.q1, .slice e.a2 e.c.C.length e.q2] 7 1 (by decide) rfl
              have hlt19 : v0.heap.size < (v0.alloc (.cells #[.int .i64 e.t, .int .i64 e.x, .int .i64 e.c.e, .int .i64 e.c.b, .int .i64 e.c.k, .slice e.a1 e.c.M.length e.q1, .slice e.a2 e.c.C.length e.q2] 46)).heap.size := by simp
              refine hK.out _ _ (HS2.out.below hB) (fun hHeld2 => ?_)
              clear hK K hHeld
              have hHeld := hHeld2
              clear hHeld2
              try simp only [Act.put, List.setIfInBounds_toArray, List.set_cons_zero, List.set_cons_succ]
              generalize v0.alloc (.cells #[.int .i64 e.t, .int .i64 e.x, .int .i64 e.c.e, .int .i64 e.c.b, .int .i64 e.c.k, .slice e.a1 e.c.M.length e.q1, .slice e.a2 e.c.C.length e.q2] 46) = v1 at *
              have HB2 := Lib.hid hB
              clear HB hB
              have HB := HB2
              clear HB2
              obtain ⟨F0, hF0⟩ : ∃ F0, v0.heap.size = F0 := ⟨_, rfl⟩
              rw [hF0] at hLt hlt19 ⊢
              have HLt := Lib.hid (And.intro hLt hlt19)
              clear hLt hlt19
              refine goes_ready (rs := [0]) (by kernel_rfl) (by simp) ?_
              refine GoesEach.cons (o := { dst := some 91, op := Go.Op.buildSlice 25 0 #[], type := 25, pos := "law.go:59", after := #[], guard := none }) rfl (fun K hK => ?_) GoesEach.nil
              rw [if_pos (by kernel_rfl)]
              refine wp_bs0R ?hoB7 Try.underlying25 hi ?hrB7
              case hoB7 => rfl
              have hB := (HB.out.alloc HB.out.size (.cells #[] 46))
              have hO : (v1.alloc (.cells #[] 46)).ownsRow W2.heap.size 46 7 (.slice (some ⟨v1.heap.size, 0, none⟩) 0 0) 0 [] := World.ownsRow_lit (base := W2.heap.size) v1 #[] 0 HB.out.size (by decide) rfl
              have hlt0 : F0 < (v1.alloc (.cells #[] 46)).heap.size := by have := HLt.out.2; simp; omega
              have hLt := HLt.out.1.below ((Below.refl v1.heap.size v1).alloc (Nat.le_refl _) (.cells #[] 46))
              have hne : ∀ b, (Value.slice (some ⟨F0, 0, none⟩) 1 1).ownBlock = some b → (Value.slice (some ⟨v1.heap.size, 0, none⟩) 0 0).ownBlock ≠ some b := fun b h1 h2 => by have e1 := Option.some.inj h1; have e2 := Option.some.inj h2; have := HLt.out.2; simp only at e1 e2; omega
              refine hK.out _ _ (HS2.out.below hB) (fun hHeld2 => ?_)
              clear hK K hHeld
              have hHeld := hHeld2
              clear hHeld2
              try simp only [Act.put, List.setIfInBounds_toArray, List.set_cons_zero, List.set_cons_succ]
              generalize v1.alloc (.cells #[] 46) = v2 at *
              obtain ⟨E0, hE0⟩ : ∃ E0, v1.heap.size = E0 := ⟨_, rfl⟩
              rw [hE0] at hO hne ⊢
              have HB2 := Lib.hid hB
              have HO := Lib.hid hO
              clear HB hB hO
              have HB := HB2
              clear HB2
              have HLt2 := Lib.hid (And.intro hLt hlt0)
              have HNE := Lib.hid hne
              clear HLt hLt hne hlt0
              have HLt := HLt2
              clear HLt2
              refine goes_ready (rs := [14]) (by kernel_rfl) (by simp) ?_
              refine GoesEach.cons (o := { dst := some 105, op := Go.Op.call { callee := Go.Callee.builtin Go.Builtin.append, args := #[Go.Operand.tmp 91, Go.Operand.tmp 104], argTypes := #[25, 25] }, type := 25, pos := "law.go:59", after := #[{ on := 0, ground := Go.Ground.data }, { on := 13, ground := Go.Ground.data }], guard := none }) rfl (fun K hK => ?_) GoesEach.nil
              refine step_app Try.underlying25 hi hz0 hz1 hz2 rfl (by decide) rfl (.tmp 91) (.tmp 104) rfl W2.heap.size (.slice (some ⟨E0, 0, none⟩) 0 0) 0 [] (by rfl) HO.out (.slice wa kk wq) kk (enCells (ms'.take kk)) (by rfl) (HSR.out.below HB.out) (enCells_one _) (by unfold maxLen; omega) (by omega) HB.out.size ?_
              intro x1 v3 hown hgr
              have hB : Below W2.heap.size W2 v3 := HB.out.grown hgr HB.out.size (fun k e => (HO.out.lt k e).1)
              have hLt := sr_grown HLt.out.1 hgr (fun b hb => HNE.out b hb)
              have hlt19 := Nat.lt_of_lt_of_le HLt.out.2 hgr.size
              refine hK.out _ _ (HS2.out.below hB) (fun hHeld2 => ?_)
              clear hK K hHeld
              have hHeld := hHeld2
              clear hHeld2
              try simp only [Act.put, List.setIfInBounds_toArray, List.set_cons_zero, List.set_cons_succ]
              have HA := Lib.hid (show v3.ownsRow W2.heap.size 46 7 x1 kk (enCells (ms'.take kk)) from by simpa using hown)
              have HB2 := Lib.hid hB
              clear HB hB hown
              have HB := HB2
              clear HB2
              have HLt2 := Lib.hid (And.intro hLt hlt19)
              clear HLt hLt hlt19
              have HLt := HLt2
              clear HLt2
              clear hgr
              refine goes_ready (rs := [20]) (by kernel_rfl) (by simp) ?_
              refine GoesEach.cons (o := { dst := some 111, op := Go.Op.call { callee := Go.Callee.builtin Go.Builtin.append, args := #[Go.Operand.tmp 105, Go.Operand.tmp 110], argTypes := #[25, 25] }, type := 25, pos := "law.go:59", after := #[{ on := 14, ground := Go.Ground.data }, { on := 19, ground := Go.Ground.data }, { on := 14, ground := Go.Ground.chain }], guard := none }) rfl (fun K hK => ?_) GoesEach.nil
              refine step_app Try.underlying25 hi hz0 hz1 hz2 rfl (by decide) rfl (.tmp 105) (.tmp 110) rfl W2.heap.size x1 kk (enCells (ms'.take kk)) (by rfl) HA.out (.slice (some ⟨F0, 0, none⟩) 1 1) 1 (enCells [e]) (by rfl) HLt.out.1 (enCells_one _) (by unfold maxLen; omega) (by omega) HB.out.size ?_
              intro x2 v4 hown hgr
              have hB : Below W2.heap.size W2 v4 := HB.out.grown hgr HB.out.size (fun k e => (HA.out.lt k e).1)
              refine hK.out _ _ (HS2.out.below hB) (fun hHeld2 => ?_)
              clear hK K hHeld
              have hHeld := hHeld2
              clear hHeld2
              try simp only [Act.put, List.setIfInBounds_toArray, List.set_cons_zero, List.set_cons_succ]
              have HF := Lib.hid (And.intro hown hB)
              clear hown hgr HB hB
              refine goes_take (i := 21) (oi := { dst := some 112, op := Go.Op.fieldAddr 27 (Go.Operand.tmp 4) 2, type := 0, pos := "law.go:59", after := #[{ on := 0, ground := Go.Ground.phase }, { on := 1, ground := Go.Ground.phase }, { on := 2, ground := Go.Ground.phase }, { on := 3, ground := Go.Ground.phase }, { on := 4, ground := Go.Ground.phase }, { on := 5, ground := Go.Ground.phase }, { on := 6, ground := Go.Ground.phase }, { on := 7, ground := Go.Ground.phase }, { on := 8, ground := Go.Ground.phase }, { on := 9, ground := Go.Ground.phase }, { on := 10, ground := Go.Ground.phase }, { on := 11, ground := Go.Ground.phase }, { on := 12, ground := Go.Ground.phase }, { on := 13, ground := Go.Ground.phase }, { on := 14, ground := Go.Ground.phase }, { on := 15, ground := Go.Ground.phase }, { on := 16, ground := Go.Ground.phase }, { on := 17, ground := Go.Ground.phase }, { on := 18, ground := Go.Ground.phase }, { on := 19, ground := Go.Ground.phase }, { on := 20, ground := Go.Ground.phase }], guard := none }) (v := ?vBg8_21) rfl (by kernel_rfl) (by kernel_rfl) (by kernel_rfl) (fun _ _ _ h => h) (Or.inl ⟨by rfl, ?yBg8_21⟩) (by assumption) ?rBg8_21
              case yBg8_21 => (intro w hSw; obtain ⟨s1, s2, s3⟩ := hSw; go_simp; try with_reducible rfl)
              try simp only [Act.put, List.setIfInBounds_toArray, List.set_cons_zero, List.set_cons_succ]
              refine goes_ready (rs := [22]) (by kernel_rfl) (by simp) ?_
              refine GoesEach.last (o := { dst := none, op := Go.Op.store 25 (Go.Operand.tmp 112) (Go.Operand.tmp 111), type := 0, pos := "law.go:59", after := #[{ on := 21, ground := Go.Ground.data }, { on := 20, ground := Go.Ground.data }, { on := 20, ground := Go.Ground.chain }, { on := 0, ground := Go.Ground.phase }, { on := 1, ground := Go.Ground.phase }, { on := 2, ground := Go.Ground.phase }, { on := 3, ground := Go.Ground.phase }, { on := 4, ground := Go.Ground.phase }, { on := 5, ground := Go.Ground.phase }, { on := 6, ground := Go.Ground.phase }, { on := 7, ground := Go.Ground.phase }, { on := 8, ground := Go.Ground.phase }, { on := 9, ground := Go.Ground.phase }, { on := 10, ground := Go.Ground.phase }, { on := 11, ground := Go.Ground.phase }, { on := 12, ground := Go.Ground.phase }, { on := 13, ground := Go.Ground.phase }, { on := 14, ground := Go.Ground.phase }, { on := 15, ground := Go.Ground.phase }, { on := 16, ground := Go.Ground.phase }, { on := 17, ground := Go.Ground.phase }, { on := 18, ground := Go.Ground.phase }, { on := 19, ground := Go.Ground.phase }, { on := 20, ground := Go.Ground.phase }], guard := none }) rfl (by kernel_rfl) (fun K hK => ?_)
              obtain ⟨xa, xc, rfl⟩ := owns_form3 HF.out.1
              have hz := below_at HF.out.2 hxl H3.out.1
              have z2 := cell_atD hz 2 (v := .slice wa L wq) rfl
              have zf : v4.frozen? ⟨X, 2, none⟩ = false := by simp [World.frozen?, hz]
              have HM2 := Lib.hid (HLEAF.out _ _ HF.out.1 HF.out.2)
              rw [if_pos (by kernel_rfl)]
              go_simp
              refine hK.out _ _ ?_
              clear hK K z2 zf hz hHeld
              try simp only [Act.put, List.setIfInBounds_toArray, List.set_cons_zero, List.set_cons_succ]
              refine goes_done (by kernel_rfl) ?_ _
              go_wp2_with fail
              go_roundw
              case rel => exact ⟨j + 1, K, by omega, rfl, by go_num, HM2⟩
              case measure => simp [intOf]; omega
      · obtain rfl : j = n := by omega
        obtain ⟨v', ms', q1, q2, q3, q4, q5, q6, q7⟩ := HR.out
        obtain ⟨wa, wq, rfl, p1, p2, p3⟩ := q3
        have hEl : Elts wr EN.cells 7 (.slice wa ms'.length wq) ms' := ⟨wa, wq, rfl, p1, p2, p3⟩
        have hE := HEND.out wr (by rw [← hX]; exact q7) q2 wa ms'.length wq
        have hEl2 : Elts (((wr.setCell ⟨X + 1, 0, none⟩ (.int .i64 B)).setCell ⟨X + 1, 1, none⟩ (.int .i64 T)).setCell ⟨X + 1, 2, none⟩ (.slice wa ms'.length wq)) EN.cells 7 (.slice wa ms'.length wq) ms' := by
          refine elts_away hEl (by simp) fun hz b hb => ?_
          have hbn : b ≠ X + 1 := by
            rcases q6 with q | q
            · injection q with qa ql qc
              subst qa ql
              intro e
              obtain ⟨va9, vc9, e1, h91, h92, h3⟩ := HV.out
              injection e1 with e1 e91 e92
              subst e1
              rcases h3 with h3 | ⟨b2, o2, e2, hb2, -⟩
              · exact hz (by rw [← HN.out.2]; exact h3)
              · rw [e2] at hb
                have e3 := Option.some.inj hb
                simp only at e3
                omega
            · exact Nat.ne_of_gt (q b hb)
          rw [heap_setCell_other _ _ _ _ hbn, heap_setCell_other _ _ _ _ hbn, heap_setCell_other _ _ _ _ hbn]
        have e0 := cell_atD hE.1 0 (v := .int .i64 B) rfl
        have e1 := cell_atD hE.1 1 (v := .int .i64 T) rfl
        have e2 := cell_atD hE.1 2 (v := .slice wa ms'.length wq) rfl
        have x0 := cell_atD q1 0 (v := .int .i64 B) rfl
        have x1 := cell_atD q1 1 (v := .int .i64 T) rfl
        have x2 := cell_atD q1 2 (v := .slice wa ms'.length wq) rfl
        have y0 := cell_atD q2 0 (v := .int .i64 0) rfl
        have y1 := cell_atD q2 1 (v := .int .i64 0) rfl
        have y2 := cell_atD q2 2 (v := .slice none 0 0) rfl
        have fy : ∀ j, wr.frozen? ⟨X + 1, j, none⟩ = false := fun j => by simp [World.frozen?, q2]
        have hkey : ms'.map EN.k = goK (ms.map EN.k) (startG B at_ es).1 ((startG B at_ es).2.map EN.k) := by
          rw [q4, HST'.out, List.take_of_length_le (by rw [List.length_drop, HN.out.1]; omega)]
        have hto : toG B at_ es = at_ + j := by
          unfold toG
          rw [HST'.out]
          have := HAT.out
          simp only [List.length_drop, HN.out.1]
          omega
        have HZ := Lib.hid (And.intro hE (And.intro hEl2 (And.intro hkey (And.intro hto (And.intro q5 q6)))))
        clear hE hEl2 hkey hto q1 q2 q4 q5 q6 q7 p1 p2 p3 hEl HR
        go_wp2_with fail
        refine bodyPost_ret (v := .tuple #[.agg #[.int .i64 B, .int .i64 T, .slice wa ms'.length wq], .int .i64 (at_ + j), .bool true]) (by simp [results, Try.results9, go_sem, e0, e1, e2]) rfl ?_
        refine ⟨_, ms', ?_, HZ.out.2.1, ?_, HZ.out.2.2.2.2.1, ?_, ?_⟩
        · (try rw [if_pos rfl]); rw [HZ.out.2.2.2.1]
        · (try rw [if_pos rfl]); exact HZ.out.2.2.1
        · exact HZ.out.2.2.2.2.2.imp id fun q b hb => by have := q b hb; omega
        · first | exact HZ.out.1.2 | (rw [hX]; exact HZ.out.1.2)
end Go.Proofs.Ytkdmnhmlkcejfaa
