/-
  ConfNodes' walk.
-/
import Derived.Test.YtlabjemjhokcaaaConfE
namespace Go.Proofs.Ytlabjemjhokcaaa
open Go.RowKit
set_option linter.unusedVariables false

/-- a slice of integers that came in by its shape -/
theorem fits_ints {w : World} {a : Option Addr} {len cap : Nat} (h : Fits w (.slice (.int .i64)) [.slice a len cap]) : ∃ l : List Int, l.length = len ∧ SR w (.slice a len cap) 1 l.length (nCells l) := by
  obtain ⟨h1, h2, h3⟩ := h.slice
  rcases h3 with h0 | ⟨b, off, rfl, hb, he⟩
  · subst h0
    exact ⟨[], rfl, a, cap, rfl, h1, h2, rfl, .inl rfl⟩
  · refine ⟨(List.range len).map fun i => match w.cell? ⟨b, off + i, none⟩ with | some (.int _ z) => z | _ => 0, by simp, ?_⟩
    refine ⟨_, cap, by simp, by simpa using h1, h2, by simp [nCells], .inr ⟨b, off, rfl, hb, fun j u hj => ?_⟩⟩
    have hjl : j < len := by
      have := (List.getElem?_eq_some_iff.1 hj).1
      simpa [nCells] using this
    obtain ⟨ys, hl, hc, z, rfl, -⟩ := he j hjl
    have hcell : w.cell? ⟨b, off + j, none⟩ = some (.int .i64 z) := by simpa [Sh.size] using hc 0 _ rfl
    rw [hcell, ← hj]
    simp [nCells, hjl, hcell]
def Dis (l : List Int) : Prop := ∀ k, k < l.length → l.getD k 0 ∉ l.take k
theorem dis_ok (l : List Int) (h : okK l l.length = true) : Dis l := by
  intro k hk
  have := okK_le l l.length (k + 1) (by omega) h
  simp only [okK, Bool.and_eq_true, Bool.not_eq_true', decide_eq_false_iff_not] at this
  exact this.2
theorem dis_two (x : Int) (h : x ≠ 4) : Dis [x, 4] := by
  intro k hk
  match k, hk with
  | 0, _ => simp
  | 1, _ => simp; omega
  | n + 2, h => simp at h; omega
theorem near_dis (b : Int) (M C : List Int) : Dis (nearC b 5 M C) := by
  unfold nearC
  rw [if_neg (by decide)]
  split
  · exact dis_two _ (by omega)
  · rename_i h
    simp only [badN, Bool.and_eq_true, Bool.not_eq_true'] at h
    have h2 : nodesB (low4 C) 1 = true := by
      cases e : nodesB (low4 C) 1
      · exact absurd ⟨by simp [e], by decide⟩ h
      · rfl
    simp only [nodesB, Bool.and_eq_true] at h2
    exact dis_ok _ h2.1.1
theorem getD_take (l : List Int) (i j : Nat) (hi : i < l.length) (hij : i < j) : l.getD i 0 ∈ l.take j := by
  have e : l.getD i 0 = l[i] := by simp [List.getD, hi]
  rw [e, List.mem_take_iff_getElem]
  exact ⟨i, by omega, rfl⟩
/-- who is behind, so far -/
def bhK (C : List Int) (n : Int) : Nat → Int | 0 => -1 | i + 1 => if C.getD i 0 = n ∧ i + 1 < C.length then C.getD (i + 1) 0 else bhK C n i
theorem bhK_val (C : List Int) (n : Int) (hd : Dis C) (k0 : Nat) (h0 : k0 < C.length) (hnot : n ∉ C.take k0) (hat : C.getD k0 0 = n) : ∀ i, i ≤ C.length → bhK C n i = if k0 < i ∧ k0 + 1 < C.length then C.getD (k0 + 1) 0 else -1 := by
  intro i
  induction i with
  | zero => intro _; simp [bhK]
  | succ i ih =>
    intro hi
    have hiff : C.getD i 0 = n ↔ i = k0 := by
      constructor
      · intro e
        rcases Nat.lt_trichotomy i k0 with h | h | h
        · exact absurd (e ▸ getD_take C i k0 (by omega) h) hnot
        · exact h
        · have h1 := hd i (by omega)
          rw [e, ← hat] at h1
          exact absurd (getD_take C k0 i h0 h) h1
      · rintro rfl
        exact hat
    unfold bhK
    rw [ih (by omega)]
    by_cases e : i = k0
    · subst e
      by_cases h1 : i + 1 < C.length
      · rw [if_pos ⟨hat, h1⟩, if_pos ⟨by omega, h1⟩]
      · rw [if_neg (by rintro ⟨_, h⟩; exact h1 h), if_neg (by omega), if_neg (by omega)]
    · rw [if_neg (by rintro ⟨h, _⟩; exact e (hiff.1 h))]
      by_cases h2 : k0 < i ∧ k0 + 1 < C.length
      · rw [if_pos h2, if_pos ⟨by omega, h2.2⟩]
      · rw [if_neg h2, if_neg (by omega)]
theorem bhK_no (C : List Int) (n : Int) (h : n ∉ C) : ∀ i, i ≤ C.length → bhK C n i = -1 := by
  intro i
  induction i with
  | zero => intro _; rfl
  | succ i ih =>
    intro hi
    have hne : ¬ (C.getD i 0 = n) := fun e => h (List.mem_of_mem_take (e ▸ getD_take C i (i + 1) (by omega) (by omega)))
    unfold bhK
    rw [if_neg (by rintro ⟨h, _⟩; exact hne h)]
    exact ih (by omega)
theorem bhK_end (C : List Int) (n : Int) (hd : Dis C) : bhK C n C.length = behindF n C := by
  by_cases h : n ∈ C
  · obtain ⟨k0, h0, hnot, hat, hix⟩ := ix_in n C h
    rw [bhK_val C n hd k0 h0 hnot hat _ (Nat.le_refl _)]
    unfold behindF
    rw [hix]
    by_cases h1 : k0 + 1 < C.length
    · rw [if_pos ⟨h0, h1⟩, if_neg (by omega), show ((k0 : Int) + 1).toNat = k0 + 1 by omega]
    · rw [if_neg (by omega), if_pos (.inr (by omega))]
  · rw [bhK_no C n h _ (Nat.le_refl _)]
    unfold behindF
    rw [ix_none n C 0 h, if_pos (.inl (by decide))]
/-- is it among the first i? -/
def InRel (n : Int) (l : List Int) (i : Nat) (s : Value) : Prop := ∃ p : Bool, s = .bool p ∧ (p = true ↔ n ∈ l.take i)
theorem in_stay {n : Int} {l : List Int} {i : Nat} (hi : i < l.length) (h : n ∈ l.take i) : InRel n l (i + 1) (.bool true) := ⟨true, rfl, by simp [mem_take_succ l i hi n, h]⟩
theorem in_hit {n : Int} {l : List Int} {i : Nat} (hi : i < l.length) (h : l.getD i 0 = n) : InRel n l (i + 1) (.bool true) := ⟨true, rfl, ⟨fun _ => (mem_take_succ l i hi n).2 (.inr h.symm), fun _ => rfl⟩⟩
theorem in_miss {n : Int} {l : List Int} {i : Nat} (hi : i < l.length) (h : ¬ (n ∈ l.take i)) (h2 : ¬ (l.getD i 0 = n)) : InRel n l (i + 1) (.bool false) :=
  ⟨false, rfl, by simp only [Bool.false_eq_true, mem_take_succ l i hi n, false_iff, not_or]; exact ⟨h, fun e => h2 e.symm⟩⟩
theorem in_end {n : Int} {l : List Int} {p : Bool} (h : p = true ↔ n ∈ l.take l.length) : p = decide (n ∈ l) := by
  rw [List.take_length] at h
  rw [Bool.eq_iff_iff, h, decide_eq_true_eq]
def InTwo (P : Prop) (n : Int) (l : List Int) (i : Nat) (s : Value) : Prop := ∃ p : Bool, s = .bool p ∧ (p = true ↔ P ∨ n ∈ l.take i)
theorem two_stay {P : Prop} {n : Int} {l : List Int} {i : Nat} (hi : i < l.length) (h : P ∨ n ∈ l.take i) : InTwo P n l (i + 1) (.bool true) :=
  ⟨true, rfl, ⟨fun _ => h.imp id (fun h => (mem_take_succ l i hi n).2 (.inl h)), fun _ => rfl⟩⟩
theorem two_hit {P : Prop} {n : Int} {l : List Int} {i : Nat} (hi : i < l.length) (h : l.getD i 0 = n) : InTwo P n l (i + 1) (.bool true) := ⟨true, rfl, ⟨fun _ => .inr ((mem_take_succ l i hi n).2 (.inr h.symm)), fun _ => rfl⟩⟩
theorem two_miss {P : Prop} {n : Int} {l : List Int} {i : Nat} (hi : i < l.length) (h : ¬ (P ∨ n ∈ l.take i)) (h2 : ¬ (l.getD i 0 = n)) : InTwo P n l (i + 1) (.bool false) :=
  ⟨false, rfl, ⟨(fun h => by cases h), fun h3 => by
    rcases h3 with h3 | h3
    · exact absurd (.inl h3) h
    · rcases (mem_take_succ l i hi n).1 h3 with h4 | h4
      · exact absurd (.inr h4) h
      · exact absurd h4.symm h2⟩⟩
def PickLen (f : Nat → Bool) (j y : Nat) : Prop := (pickK f j).length = y
theorem plen_true {f : Nat → Bool} {j y : Nat} (h : PickLen f j y) (hf : f j = true) : PickLen f (j + 1) (y + 1) := by
  unfold PickLen at *
  simp [pickK, hf, h]
theorem plen_false {f : Nat → Bool} {j y : Nat} (h : PickLen f j y) (hf : f j = false) : PickLen f (j + 1) y := by
  unfold PickLen at *
  simp [pickK, hf, h]
/-- what stays all along -/
structure Bun (X : Nat) (A : Array Value) (v1 v2 : Value) (M C : List Int) (w wr : World) : Prop where
  x : wr.heap[X]? = some (.cells A 24)
  m : SR wr v1 1 M.length (nCells M)
  c : SR wr v2 1 C.length (nCells C)
  b : Below w.heap.size w wr
theorem Bun.next {X : Nat} {A : Array Value} {v1 v2 : Value} {M C : List Int} {w wr wx : World} (h : Bun X A v1 v2 M C w wr) (hb : Below wr.heap.size wr wx) : Bun X A v1 v2 M C w wx :=
  ⟨below_at hb (lt_heap h.x) h.x, h.m.below hb, h.c.below hb, h.b.trans (hb.mono h.b.size)⟩
set_option maxHeartbeats 12800000 in
set_option maxRecDepth 40000 in
theorem cnodes_law (c : Array Value) (n : Int) (w : World) (hf : Fits w (.two (.int .i64) (.two (.int .i64) (.two (.int .i64) (.two (.slice (.int .i64)) (.two (.slice (.int .i64)) .unit))))) c.toList) (hn : (Lit.int .i64 n).wf = true) :
    Calls Try.prog 3 #[.agg c, .int .i64 n] w fun v w' => v = .returned (.bool true) ∧ Below w.heap.size w w' := by
  obtain ⟨x0, y0, h0, ⟨e, rfl, -⟩, x1, y1, rfl, ⟨b, rfl, -⟩, x2, y2, rfl, ⟨k, rfl, -⟩, x3, y3, rfl, hM, x4, y4, rfl, hC, rfl⟩ := hf
  obtain ⟨ma, ml, mc, rfl, hM'⟩ : ∃ a l q, x3 = [.slice a l q] ∧ Fits w (.slice (.int .i64)) [.slice a l q] := by
    obtain ⟨a, l, q, rfl, h⟩ := hM
    exact ⟨a, l, q, rfl, a, l, q, rfl, h⟩
  obtain ⟨ca, cl, cc, rfl, hC'⟩ : ∃ a l q, x4 = [.slice a l q] ∧ Fits w (.slice (.int .i64)) [.slice a l q] := by
    obtain ⟨a, l, q, rfl, h⟩ := hC
    exact ⟨a, l, q, rfl, a, l, q, rfl, h⟩
  obtain ⟨M0, rfl, hm0⟩ := fits_ints hM'
  obtain ⟨C0, rfl, hc0⟩ := fits_ints hC'
  obtain rfl : c = #[.int .i64 e, .int .i64 b, .int .i64 k, .slice ma M0.length mc, .slice ca C0.length cc] := by
    obtain ⟨l⟩ := c
    simp at h0
    rw [h0]
  clear hM hC hM' hC' hn h0
  have bx : Below w.heap.size w (w.alloc (.cells #[.int .i64 e, .int .i64 b, .int .i64 k, .slice ma M0.length mc, .slice ca C0.length cc] 24)) := by go_grown
  have cn := near_any e b k 5 _ _ M0 C0 (w.alloc (.cells #[.int .i64 e, .int .i64 b, .int .i64 k, .slice ma M0.length mc, .slice ca C0.length cc] 24)) (hm0.below bx) (hc0.below bx)
  unfold confA at cn
  have hdis := Lib.hid (near_dis b M0 C0)
  have BX := Lib.hid bx
  clear hm0 hc0 bx
  go_enter Try.func3, Try.ntmps3
  go_wp2_with fail
  refine Calls.mono cn ?_
  rintro ev w1 ⟨v1, v2, rfl, s1, s2, hb1⟩
  unfold confA
  obtain ⟨a1, p1, rfl, hp1, hq1⟩ := s1.form
  obtain ⟨a2, p2, rfl, hp2, hq2⟩ := s2.form
  unfold maxLen at hq1 hq2
  generalize nearE e 5 = E at *
  generalize nearB b 5 = G at *
  generalize nearK k 5 = K at *
  generalize nearM b 5 M0 C0 = M at *
  generalize nearC b 5 M0 C0 = C at *
  have hz1 := hb1.size
  have B2 := Lib.hid (show Bun w1.heap.size #[.int .i64 E, .int .i64 G, .int .i64 K, .slice a1 M.length p1, .slice a2 C.length p2] (.slice a1 M.length p1) (.slice a2 C.length p2) M C w (w1.alloc (.cells #[.int .i64 E, .int .i64 G, .int .i64 K, .slice a1 M.length p1, .slice a2 C.length p2] 24)) from
    ⟨heap_alloc_self _ _, s1.below ((Below.refl _ _).alloc (Nat.le_refl _) _), s2.below ((Below.refl _ _).alloc (Nat.le_refl _) _), (BX.out.trans (hb1.mono BX.out.size)).alloc (by have := BX.out.size; omega) _⟩)
  clear s1 s2 hb1 cn
  go_upto_region 2 with fail
  generalize w1.alloc (.cells #[.int .i64 E, .int .i64 G, .int .i64 K, .slice a1 M.length p1, .slice a2 C.length p2] 24) = w2 at *
  generalize w1.heap.size = X at *
  have hx := B2.out.x
  have z2 := B2.out.b.size
  have c3 : w2.cell? ⟨X, 3, none⟩ = some (.slice a1 M.length p1) := by simp [World.cell?, hx]
  have c4 : w2.cell? ⟨X, 4, none⟩ = some (.slice a2 C.length p2) := by simp [World.cell?, hx]
  clear hx
  go_wp2_with fail
  go_loop [6, 9] (fun s i => ∃ j : Nat, j ≤ M.length ∧ i = .int .i64 j ∧ InRel n M j s) (fun _ i => M.length - (intOf i).toNat)
  case atStart => exact ⟨0, by omega, rfl, false, rfl, by simp⟩
  case round =>
    obtain ⟨j, hj, rfl, p, rfl, hp⟩ := hrel
    have HP := Lib.hid hp
    clear hp
    by_cases hlt : j < M.length
    · obtain ⟨bb, off, rfl, hb, hcell⟩ := B2.out.m.int (by omega)
      have hc := hcell j hlt
      obtain ⟨x, hx⟩ : ∃ x, x = M.getD j 0 := ⟨_, rfl⟩
      rw [← hx] at hc
      have HX := Lib.hid hx
      clear hcell hx
      cases p
      · by_cases he : x = n
        · subst he
          go_wp2_with fail
          go_round
          case rel => exact ⟨j + 1, by omega, by go_num, in_hit hlt HX.out.symm⟩
          case measure => simp [intOf]; omega
        · have heb : (x == n) = false := by simpa using he
          go_wp2_with fail
          go_round
          case rel => exact ⟨j + 1, by omega, by go_num, in_miss hlt (fun h => by have := HP.out.2 h; cases this) (by rw [← HX.out]; exact he)⟩
          case measure => simp [intOf]; omega
      · go_wp2_with fail
        go_round
        case rel => exact ⟨j + 1, by omega, by go_num, in_stay hlt (HP.out.1 rfl)⟩
        case measure => simp [intOf]; omega
    · obtain rfl : j = M.length := by omega
      have hpm := in_end HP.out
      have HPM := Lib.hid hpm
      clear hlt hpm HP
      go_wp2_with fail
      go_loop [7, 8, 10] (fun s t i => ∃ j : Nat, j ≤ C.length ∧ i = .int .i64 j ∧ InRel n C j s ∧ ∃ z, t = .int .i64 z ∧ Hid (z = bhK C n j)) (fun _ _ i => C.length - (intOf i).toNat)
      case atStart => exact ⟨0, by omega, rfl, ⟨false, rfl, by simp⟩, -1, rfl, rfl⟩
      case round =>
        obtain ⟨j, hj, rfl, ⟨q, rfl, hq⟩, z, rfl, HZ⟩ := hrel
        have HQ := Lib.hid hq
        clear hq
        by_cases hlt : j < C.length
        · obtain ⟨bb, off, rfl, hb, hcell⟩ := B2.out.c.int (by omega)
          have hc := hcell j hlt
          obtain ⟨x, hx⟩ : ∃ x, x = C.getD j 0 := ⟨_, rfl⟩
          rw [← hx] at hc
          have HX := Lib.hid hx
          clear hx
          by_cases he : x = n
          · subst he
            by_cases h1 : j + 1 < C.length
            · have hc1 := hcell (j + 1) h1
              obtain ⟨y, hy⟩ : ∃ x, x = C.getD (j + 1) 0 := ⟨_, rfl⟩
              rw [← hy] at hc1
              have HY := Lib.hid hy
              have h1' : (j : Int) + 1 < (C.length : Int) := by omega
              clear hcell hy
              cases q
              all_goals
                go_wp2_with fail
                go_round
                case rel => exact ⟨j + 1, by omega, by go_num, in_hit hlt HX.out.symm, y, rfl, by show y = bhK C x (j + 1); unfold bhK; rw [if_pos ⟨HX.out.symm, h1⟩]; exact HY.out⟩
                case measure => simp [intOf]; omega
            · have h1' : ¬ ((j : Int) + 1 < (C.length : Int)) := by omega
              clear hcell
              cases q
              all_goals
                go_wp2_with fail
                go_round
                case rel => exact ⟨j + 1, by omega, by go_num, in_hit hlt HX.out.symm, z, rfl, by show z = bhK C x (j + 1); unfold bhK; rw [if_neg (by rintro ⟨_, h⟩; exact h1 h)]; exact HZ⟩
                case measure => simp [intOf]; omega
          · clear hcell
            have heb : (x == n) = false := by simpa using he
            cases q
            · go_wp2_with fail
              go_round
              case rel => exact ⟨j + 1, by omega, by go_num, in_miss hlt (fun h => by have := HQ.out.2 h; cases this) (by rw [← HX.out]; exact he), z, rfl, by show z = bhK C n (j + 1); unfold bhK; rw [if_neg (by rintro ⟨h, _⟩; exact he (HX.out.trans h))]; exact HZ⟩
              case measure => simp [intOf]; omega
            · go_wp2_with fail
              go_round
              case rel => exact ⟨j + 1, by omega, by go_num, in_stay hlt (HQ.out.1 rfl), z, rfl, by show z = bhK C n (j + 1); unfold bhK; rw [if_neg (by rintro ⟨h, _⟩; exact he (HX.out.trans h))]; exact HZ⟩
              case measure => simp [intOf]; omega
        · obtain rfl : j = C.length := by omega
          have HQM := Lib.hid (in_end HQ.out)
          have HZM := Lib.hid (show z = behindF n C from (show z = bhK C n C.length from HZ).trans (bhK_end C n hdis.out))
          clear hlt HQ HZ
          have B := B2.out
          have y0 : w2.cell? ⟨X, 0, none⟩ = some (.int .i64 E) := by simp [World.cell?, B.x]
          have y1 : w2.cell? ⟨X, 1, none⟩ = some (.int .i64 G) := by simp [World.cell?, B.x]
          have y2 : w2.cell? ⟨X, 2, none⟩ = some (.int .i64 K) := by simp [World.cell?, B.x]
          have ca := all_any E G K _ _ M C w2 B.m B.c
          unfold confA at ca
          obtain ⟨f, hf⟩ : ∃ f, f = inF M C := ⟨_, rfl⟩
          rw [← hf] at ca
          have HF := Lib.hid hf
          clear B hf
          go_wp2_with fail
          refine Calls.mono ca ?_
          rintro ev w3 ⟨v, rfl, hs, hb3⟩
          obtain ⟨ad, cap, rfl, hcl, hcp⟩ := hs.form
          have hle := pickK_le f 5
          unfold maxLen at hcp
          obtain ⟨n5, hn5⟩ : ∃ n5, (pickK f 5).length = n5 := ⟨_, rfl⟩
          simp only [hn5] at hs hle hcl
          rw [hn5]
          have H5 := Lib.hid hn5
          have HS := Lib.hid hs
          have B3 := Lib.hid (B2.out.next hb3)
          have x3 := B3.out.x
          have d3 : w3.cell? ⟨X, 3, none⟩ = some (.slice a1 M.length p1) := by simp [World.cell?, x3]
          have d4 : w3.cell? ⟨X, 4, none⟩ = some (.slice a2 C.length p2) := by simp [World.cell?, x3]
          clear hb3 hs hn5 c3 c4 y0 y1 y2 ca x3 B2
          go_wp2_with fail
          go_loop [12, 13] (fun y x => ∃ j m : Nat, j ≤ 5 ∧ m ≤ j ∧ x = .int .i64 j ∧ y = .int .i64 m ∧ PickLen f j m) (fun _ x => 5 - (intOf x).toNat)
          case atStart => exact ⟨0, 0, by omega, by omega, rfl, rfl, rfl⟩
          case round =>
            obtain ⟨i, m, hi5, hmi, rfl, rfl, hlen⟩ := hrel
            have HL := Lib.hid hlen
            clear hlen
            by_cases hlt : i < 5
            · go_wp2_with fail
              go_loop [14, 15] (fun s t => ∃ j : Nat, j ≤ M.length ∧ t = .int .i64 j ∧ InRel i M j s) (fun _ t => M.length - (intOf t).toNat)
              case atStart => exact ⟨0, by omega, rfl, false, rfl, by simp⟩
              case round =>
                obtain ⟨j, hj, rfl, r, rfl, hr⟩ := hrel
                have HR := Lib.hid hr
                clear hr
                by_cases hlt2 : j < M.length
                · obtain ⟨bb, off, rfl, hb, hcell⟩ := B3.out.m.int (by omega)
                  have hc := hcell j hlt2
                  obtain ⟨x, hx⟩ : ∃ x, x = M.getD j 0 := ⟨_, rfl⟩
                  rw [← hx] at hc
                  have HX := Lib.hid hx
                  clear hcell hx
                  cases r
                  · by_cases he : x = i
                    · subst he
                      go_wp2_with fail
                      go_round
                      case rel => exact ⟨j + 1, by omega, by go_num, in_hit hlt2 HX.out.symm⟩
                      case measure => simp [intOf]; omega
                    · have heb : (x == (i : Int)) = false := by simpa using he
                      go_wp2_with fail
                      go_round
                      case rel => exact ⟨j + 1, by omega, by go_num, in_miss hlt2 (fun h => by have := HR.out.2 h; cases this) (by rw [← HX.out]; exact he)⟩
                      case measure => simp [intOf]; omega
                  · go_wp2_with fail
                    go_round
                    case rel => exact ⟨j + 1, by omega, by go_num, in_stay hlt2 (HR.out.1 rfl)⟩
                    case measure => simp [intOf]; omega
                · obtain rfl : j = M.length := by omega
                  have HRM := Lib.hid (in_end HR.out)
                  clear hlt2 HR
                  go_wp2_with fail
                  go_loop [14, 16] (fun s t => ∃ j : Nat, j ≤ C.length ∧ t = .int .i64 j ∧ InTwo (r = true) i C j s) (fun _ t => C.length - (intOf t).toNat)
                  case atStart => exact ⟨0, by omega, rfl, r, rfl, by simp⟩
                  case round =>
                    obtain ⟨j, hj, rfl, q, rfl, hq⟩ := hrel
                    have HQ := Lib.hid hq
                    clear hq
                    by_cases hlt3 : j < C.length
                    · obtain ⟨bb, off, rfl, hb, hcell⟩ := B3.out.c.int (by omega)
                      have hc := hcell j hlt3
                      obtain ⟨x, hx⟩ : ∃ x, x = C.getD j 0 := ⟨_, rfl⟩
                      rw [← hx] at hc
                      have HX := Lib.hid hx
                      clear hcell hx
                      cases q
                      · by_cases he : x = i
                        · subst he
                          go_wp2_with fail
                          go_round
                          case rel => exact ⟨j + 1, by omega, by go_num, two_hit hlt3 HX.out.symm⟩
                          case measure => simp [intOf]; omega
                        · have heb : (x == (i : Int)) = false := by simpa using he
                          go_wp2_with fail
                          go_round
                          case rel => exact ⟨j + 1, by omega, by go_num, two_miss hlt3 (fun h => by have := HQ.out.2 h; cases this) (by rw [← HX.out]; exact he)⟩
                          case measure => simp [intOf]; omega
                      · go_wp2_with fail
                        go_round
                        case rel => exact ⟨j + 1, by omega, by go_num, two_stay hlt3 (HQ.out.1 rfl)⟩
                        case measure => simp [intOf]; omega
                    · obtain rfl : j = C.length := by omega
                      have hqf : q = f i := by
                        rw [HF.out, Bool.eq_iff_iff, HQ.out, HRM.out, List.take_length]
                        simp [inF]
                      have HQF := Lib.hid hqf
                      clear hlt3 HQ hqf HRM
                      cases q
                      · go_wp2_with fail
                        go_round
                        case rel => exact ⟨i + 1, m, by omega, by omega, by go_num, rfl, plen_false HL.out HQF.out.symm⟩
                        case measure => simp [intOf]; omega
                      · obtain ⟨ht, hg⟩ := pickK_at f i hlt HQF.out.symm
                        have hl := HL.out
                        unfold PickLen at hl
                        rw [hl, H5.out] at ht
                        rw [hl] at hg
                        obtain ⟨b3, off3, rfl, hb3, hcell3⟩ := HS.out.int (by omega)
                        have hc3 := hcell3 m ht
                        rw [hg] at hc3
                        clear hcell3 hg hl
                        go_wp2_with fail
                        go_round
                        case rel => exact ⟨i + 1, m + 1, by omega, by omega, by go_num, by go_num, plen_true HL.out HQF.out.symm⟩
                        case measure => simp [intOf]; omega
            · obtain rfl : i = 5 := by omega
              have hl := HL.out
              unfold PickLen at hl
              rw [H5.out] at hl
              subst hl
              clear hlt HL d3 d4
              go_wp2_with fail
              refine Calls.mono (conf_awake _) ?_
              rintro ev w4 ⟨rfl, hb4⟩
              have B4 := Lib.hid (B3.out.next hb4)
              clear hb4 B3
              have k0 : w4.cell? ⟨X, 0, none⟩ = some (.int .i64 E) := by simp [World.cell?, B4.out.x]
              have k1 : w4.cell? ⟨X, 1, none⟩ = some (.int .i64 G) := by simp [World.cell?, B4.out.x]
              have k2 : w4.cell? ⟨X, 2, none⟩ = some (.int .i64 K) := by simp [World.cell?, B4.out.x]
              have k3 : w4.cell? ⟨X, 3, none⟩ = some (.slice a1 M.length p1) := by simp [World.cell?, B4.out.x]
              have k4 : w4.cell? ⟨X, 4, none⟩ = some (.slice a2 C.length p2) := by simp [World.cell?, B4.out.x]
              have cm := mirrors_any E G K _ (.slice a2 C.length p2) M n w4 B4.out.m ⟨_, _, _, rfl⟩
              unfold confA at cm
              rw [← HPM.out] at cm
              go_wp2_with fail
              refine Calls.mono cm ?_
              rintro ev w5 ⟨rfl, hb5⟩
              have B5 := Lib.hid (B4.out.next hb5)
              clear hb5 B4 k0 k1 k2 k3 k4 cm
              have k0 : w5.cell? ⟨X, 0, none⟩ = some (.int .i64 E) := by simp [World.cell?, B5.out.x]
              have k1 : w5.cell? ⟨X, 1, none⟩ = some (.int .i64 G) := by simp [World.cell?, B5.out.x]
              have k2 : w5.cell? ⟨X, 2, none⟩ = some (.int .i64 K) := by simp [World.cell?, B5.out.x]
              have k3 : w5.cell? ⟨X, 3, none⟩ = some (.slice a1 M.length p1) := by simp [World.cell?, B5.out.x]
              have k4 : w5.cell? ⟨X, 4, none⟩ = some (.slice a2 C.length p2) := by simp [World.cell?, B5.out.x]
              have cm := chains_any E G K (.slice a1 M.length p1) _ C n w5 ⟨_, _, _, rfl⟩ B5.out.c
              unfold confA at cm
              rw [← HQM.out] at cm
              go_wp2_with fail
              refine Calls.mono cm ?_
              rintro ev w6 ⟨rfl, hb6⟩
              have B6 := Lib.hid (B5.out.next hb6)
              clear hb6 B5 k0 k1 k2 k3 k4 cm
              have k0 : w6.cell? ⟨X, 0, none⟩ = some (.int .i64 E) := by simp [World.cell?, B6.out.x]
              have k1 : w6.cell? ⟨X, 1, none⟩ = some (.int .i64 G) := by simp [World.cell?, B6.out.x]
              have k2 : w6.cell? ⟨X, 2, none⟩ = some (.int .i64 K) := by simp [World.cell?, B6.out.x]
              have k3 : w6.cell? ⟨X, 3, none⟩ = some (.slice a1 M.length p1) := by simp [World.cell?, B6.out.x]
              have k4 : w6.cell? ⟨X, 4, none⟩ = some (.slice a2 C.length p2) := by simp [World.cell?, B6.out.x]
              have cm := behind_any E G K (.slice a1 M.length p1) _ C n w6 ⟨_, _, _, rfl⟩ B6.out.c
              unfold confA at cm
              rw [← HZM.out] at cm
              go_wp2_with fail
              refine Calls.mono cm ?_
              rintro ev w7 ⟨rfl, hb7⟩
              have B7 := Lib.hid (B6.out.next hb7)
              clear hb7 B6 k0 k1 k2 k3 k4 cm
              have c1 := fun w => cnode_any n w
              have c2 := fun w => cgate_any n w
              have hcase : n < 0 ∨ (0 ≤ n ∧ n ≤ 4) ∨ n = 5 ∨ n = 6 ∨ 6 < n := by omega
              rcases hcase with h | ⟨h, h'⟩ | rfl | rfl | h
              · have e1 : decide (0 ≤ n ∧ n ≤ 4) = false := by simp; try omega
                have e2 : decide (5 ≤ n ∧ n ≤ 6) = false := by simp; try omega
                simp only [e1] at c1
                simp only [e2] at c2
                have f5 : (n == 5) = false := by rw [beq_eq_false_iff_ne]; omega
                have f6 : (n == 6) = false := by rw [beq_eq_false_iff_ne]; omega
                clear e1 e2
                go_wp2_with fail
                refine Calls.mono (c1 _) ?_
                rintro ev w8 ⟨rfl, rfl⟩
                go_wp2_with fail
                refine Calls.mono (c2 _) ?_
                rintro ev w8 ⟨rfl, rfl⟩
                go_wp2_with fail
                go_ret
                exact ⟨ret_bool (by simp; try omega), B7.out.b⟩
              · have e1 : decide (0 ≤ n ∧ n ≤ 4) = true := by simp; try omega
                have e2 : decide (5 ≤ n ∧ n ≤ 6) = false := by simp; try omega
                simp only [e1] at c1
                simp only [e2] at c2
                have f5 : (n == 5) = false := by rw [beq_eq_false_iff_ne]; omega
                have f6 : (n == 6) = false := by rw [beq_eq_false_iff_ne]; omega
                clear e1 e2
                go_wp2_with fail
                refine Calls.mono (c1 _) ?_
                rintro ev w8 ⟨rfl, rfl⟩
                go_wp2_with fail
                refine Calls.mono (c2 _) ?_
                rintro ev w8 ⟨rfl, rfl⟩
                go_wp2_with fail
                go_ret
                exact ⟨ret_bool (by simp; try omega), B7.out.b⟩
              · have e1 : decide ((0 : Int) ≤ 5 ∧ (5 : Int) ≤ 4) = false := by decide
                have e2 : decide ((5 : Int) ≤ 5 ∧ (5 : Int) ≤ 6) = true := by decide
                simp only [e1] at c1
                simp only [e2] at c2
                clear e1 e2
                go_wp2_with fail
                refine Calls.mono (c1 _) ?_
                rintro ev w8 ⟨rfl, rfl⟩
                go_wp2_with fail
                refine Calls.mono (c2 _) ?_
                rintro ev w8 ⟨rfl, rfl⟩
                go_wp2_with fail
                go_ret
                exact ⟨ret_bool (by simp; try omega), B7.out.b⟩
              · have e1 : decide ((0 : Int) ≤ 6 ∧ (6 : Int) ≤ 4) = false := by decide
                have e2 : decide ((5 : Int) ≤ 6 ∧ (6 : Int) ≤ 6) = true := by decide
                simp only [e1] at c1
                simp only [e2] at c2
                clear e1 e2
                go_wp2_with fail
                refine Calls.mono (c1 _) ?_
                rintro ev w8 ⟨rfl, rfl⟩
                go_wp2_with fail
                refine Calls.mono (c2 _) ?_
                rintro ev w8 ⟨rfl, rfl⟩
                go_wp2_with fail
                go_ret
                exact ⟨ret_bool (by simp; try omega), B7.out.b⟩
              · have e1 : decide (0 ≤ n ∧ n ≤ 4) = false := by simp; try omega
                have e2 : decide (5 ≤ n ∧ n ≤ 6) = false := by simp; try omega
                simp only [e1] at c1
                simp only [e2] at c2
                have f5 : (n == 5) = false := by rw [beq_eq_false_iff_ne]; omega
                have f6 : (n == 6) = false := by rw [beq_eq_false_iff_ne]; omega
                clear e1 e2
                go_wp2_with fail
                refine Calls.mono (c1 _) ?_
                rintro ev w8 ⟨rfl, rfl⟩
                go_wp2_with fail
                refine Calls.mono (c2 _) ?_
                rintro ev w8 ⟨rfl, rfl⟩
                go_wp2_with fail
                go_ret
                exact ⟨ret_bool (by simp; try omega), B7.out.b⟩
end Go.Proofs.Ytlabjemjhokcaaa
