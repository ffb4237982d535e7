/-
  A log behind any place: entries are laid behind a place.
-/
import Derived.Test.YtkdmnhmlkcejfaaRgD
namespace Go.Proofs.Ytkdmnhmlkcejfaa
open Go.RowKit
set_option linter.unusedVariables false
set_option linter.unusedSimpArgs false

variable {B T : Int}
/-- entries laid one behind the other, from a place on -/
def goK : List (Int × Int × CF) → Nat → List (Int × Int × CF) → List (Int × Int × CF)
  | l, _, [] => l
  | l, k, e :: r => goK (layK l k e) (k + 1) r
theorem goK_snoc (l : List (Int × Int × CF)) (k : Nat) (es : List (Int × Int × CF)) (e : Int × Int × CF) : goK l k (es ++ [e]) = layK (goK l k es) (k + es.length) e := by
  induction es generalizing l k with
  | nil => rfl
  | cons x r ih =>
    simp only [List.cons_append, goK, ih, List.length_cons]
    congr 1
    omega
theorem layK_len {l : List (Int × Int × CF)} {k : Nat} {e : Int × Int × CF} (h : k ≤ l.length) : k + 1 ≤ (layK l k e).length ∧ (layK l k e).length ≤ l.length + 1 := by
  unfold layK
  split
  · rename_i hc; omega
  · rw [List.length_append, List.length_take]; simp; omega
theorem goK_len (l : List (Int × Int × CF)) (k : Nat) (es : List (Int × Int × CF)) (h : k ≤ l.length) : k + es.length ≤ (goK l k es).length ∧ (goK l k es).length ≤ l.length + es.length := by
  induction es generalizing l k with
  | nil => exact ⟨h, Nat.le_refl _⟩
  | cons x r ih =>
    have h1 := layK_len (e := x) h
    have := ih (layK l k x) (k + 1) h1.1
    simp only [goK, List.length_cons]
    omega
/-- where the laying begins, and with what; none: all that is told is known -/
def startG (B : Int) (at_ : Int) (es : List EN) : Nat × List EN := if at_ < B then (0, es.drop (B - at_).toNat) else ((at_ - B).toNat, es)
def okG (B T : Int) (ts : List EN) (at_ t : Int) : Bool := decide (0 ≤ at_) && (decide (at_ ≤ B + ts.length) && (decide (at_ < B) || termG B T ts at_ == t))
def toG (B : Int) (at_ : Int) (es : List EN) : Int := B + (startG B at_ es).1 + (startG B at_ es).2.length
theorem newer {a b c : Option Nat} {n m : Nat} (h1 : b = a ∨ ∀ k, b = some k → n ≤ k) (h2 : c = b ∨ ∀ k, c = some k → m ≤ k) (hnm : n ≤ m) : c = a ∨ ∀ k, c = some k → n ≤ k := by
  rcases h2 with h2 | h2
  · rw [h2]; exact h1
  · exact .inr fun k e => Nat.le_trans hnm (h2 k e)
def AppG (v0 : Value) (B T : Int) (l0 : List (Int × Int × CF)) (k0 : Nat) (es : List EN) (w : World) (N g : Nat) (j : Nat) (wr : World) : Prop := ∃ v' fs, LogG B T wr N g v' fs ∧ fs.map EN.k = goK l0 k0 ((es.take j).map EN.k) ∧ Only g w wr ∧ (v'.ownBlock = v0.ownBlock ∨ ∀ k, v'.ownBlock = some k → w.heap.size ≤ k)
theorem elts_drop {w : World} {b off n cap d : Nat} {es : List EN} (h : Elts w EN.cells 7 (.slice (some ⟨b, off, none⟩) n cap) es) (hn : es.length = n) (hd : d ≤ n) : Elts w EN.cells 7 (.slice (some ⟨b, off + d * 7, none⟩) (n - d) (cap - d)) (es.drop d) := by
  obtain ⟨a, c, e, h1, h2, h3⟩ := h
  injection e with e1 e2 e3
  subst e1 e3
  have hl : (es.drop d).length = n - d := by rw [List.length_drop, hn]
  refine ⟨_, _, by rw [hl], by omega, by omega, ?_⟩
  rcases h3 with h3 | ⟨b', off', e, hb, hc⟩
  · left; omega
  · cases e
    refine .inr ⟨_, _, rfl, hb, fun j x hj k u hk => ?_⟩
    rw [List.getElem?_drop] at hj
    have := hc (d + j) x hj k u hk
    rw [← this]
    congr 2
    rw [Nat.add_mul]; omega
set_option maxHeartbeats 6400000 in
set_option maxRecDepth 100000 in
theorem rappG (es : List EN) (hl : es.length ≤ 10) (at_ t : Int) (hat : -1000000 ≤ at_ ∧ at_ ≤ 1000000) (w : World) (v : Value) (N g : Nat) (hv : Elts w EN.cells 7 v es) (hvf : ∀ b, v.ownBlock = some b → b ≠ g) (hes : ∀ e ∈ es, mayE e.t e.x e.c = true ∧ short e.c ∧ e.at_ w ∧ e.far g) (v0 : Value) (ts : List EN) (h : LogG B T w N g v0 ts) (hts : ts.length ≤ 280) :
    Calls Try.prog 10 #[.pointer (some ⟨g, 0, none⟩), .int .i64 at_, .int .i64 t, v] w fun ev w' => ev = .returned (.tuple #[.int .i64 (if okG B T ts at_ t = true then toG B at_ es else 0), .bool (okG B T ts at_ t)]) ∧
      ∃ v' fs, LogG B T w' N g v' fs ∧ fs.map EN.k = (if okG B T ts at_ t = true then goK (ts.map EN.k) (startG B at_ es).1 ((startG B at_ es).2.map EN.k) else ts.map EN.k) ∧ Only g w w' ∧ (v'.ownBlock = v0.ownBlock ∨ ∀ k, v'.ownBlock = some k → w.heap.size ≤ k) := by
  obtain ⟨a, cap, rfl, hlc, hcm, hel⟩ := hv
  have hel' : Elts w EN.cells 7 (.slice a es.length cap) es := ⟨a, cap, rfl, hlc, hcm, hel⟩
  have hgl := lt_heap h.obj
  obtain ⟨hb1, hb2⟩ := h.bd
  have HV := Lib.hid (And.intro hel' (And.intro hvf hes))
  obtain ⟨n, hn⟩ : ∃ n, es.length = n := ⟨_, rfl⟩
  obtain ⟨m, hm⟩ : ∃ m, ts.length = m := ⟨_, rfl⟩
  rw [hn] at hl hlc
  rw [hn] at HV
  rw [hn]
  have HN := Lib.hid (And.intro hn hm)
  have c1 := rlenG w N g v0 ts h (by omega)
  have c2 := fun q => rtermG at_ (w.drewN q) N g v0 ts (h.drewN q) (by omega) hat.1 hat.2
  rw [hm] at c1 hts
  obtain ⟨g0, g1, g2, gf⟩ := h.cells
  have H0 := Lib.hid h
  unfold maxLen at hcm
  clear hes hel hel' hvf h
  obtain ⟨S, hS⟩ : ∃ S, termG B T ts at_ = S := ⟨_, rfl⟩
  rw [hS] at c2
  obtain ⟨ok, hok⟩ : ∃ ok, okG B T ts at_ t = ok := ⟨_, rfl⟩
  have hok2 : ok = (decide (0 ≤ at_) && (decide (at_ ≤ B + m) && (decide (at_ < B) || S == t))) := by rw [← hok, ← hS, ← hm]; rfl
  rw [hok]
  clear hok hS hn hm
  by_cases x1 : at_ < 0
  · have e : ok = false := by rw [hok2, show decide (0 ≤ at_) = false by simpa using x1]; rfl
    subst e
    clear hok2
    go_enter Try.func10, Try.ntmps10
    go_wp2_with fail
    go_returns
    exact ⟨by simp, v0, ts, H0.out, by simp, Only.refl _ _, .inl rfl⟩
  by_cases x2 : B + (m : Int) < at_
  · have e : ok = false := by rw [hok2, show decide (at_ ≤ B + m) = false by simp; omega]; simp
    subst e
    clear hok2
    go_enter Try.func10, Try.ntmps10
    go_wp2_with fail
    refine Calls.mono c1 ?_
    rintro ev w1 ⟨rfl, q, rfl⟩
    go_wp2_with fail
    go_returns
    exact ⟨by simp, v0, ts, H0.out.drewN q, by simp, onlyN (Only.refl _ _) q, .inl rfl⟩
  have hok3 : ok = (decide (at_ < B) || S == t) := by rw [hok2, show decide (0 ≤ at_) = true by simp; omega, show decide (at_ ≤ B + m) = true by simp; omega]; rfl
  clear hok2
  by_cases x3 : at_ < B
  · have e : ok = true := by rw [hok3, show decide (at_ < B) = true by simpa using x3]; rfl
    subst e
    clear hok3
    obtain ⟨d, hd⟩ : ∃ d : Nat, B - at_ = d := ⟨(B - at_).toNat, by omega⟩
    have hst : startG B at_ es = (0, es.drop d) := by unfold startG; rw [if_pos x3, show (B - at_).toNat = d by omega]
    have x4 : ¬ (B ≤ at_) := by omega
    have HST := Lib.hid hst
    have HD := Lib.hid hd
    clear hst hd
    by_cases x5 : n ≤ d
    · have x6 : (n : Int) ≤ B - at_ := by have := HD.out; omega
      go_enter Try.func10, Try.ntmps10
      go_wp2_with fail
      refine Calls.mono c1 ?_
      rintro ev w1 ⟨rfl, q, rfl⟩
      have g0q : (w.drewN q).cell? ⟨g, 0, none⟩ = some (.int .i64 B) := g0
      go_wp2_with fail
      go_returns
      have e0 : es.drop d = [] := List.drop_eq_nil_of_le (by rw [HN.out.1]; exact x5)
      refine ⟨?_, v0, ts, H0.out.drewN q, ?_, onlyN (Only.refl _ _) q, .inl rfl⟩
      · (try rw [if_pos rfl]); unfold toG; rw [HST.out, e0]; simp
      · (try rw [if_pos rfl]); rw [HST.out, e0]; rfl
    · have x6 : ¬ ((n : Int) ≤ B - at_) := by have := HD.out; omega
      obtain ⟨-, hvn⟩ := And.intro trivial HV.out.1
      obtain ⟨a0, c0, e0, p1, p2, p3⟩ := hvn
      obtain ⟨b, off, rfl, hbb⟩ : ∃ b off, a = some ⟨b, off, none⟩ ∧ b < w.heap.size := by
        injection e0 with e1 e2 e3
        subst e1
        rcases p3 with p3 | ⟨b, off, rfl, hb, -⟩
        · have := HN.out.1; omega
        · exact ⟨b, off, rfl, hb⟩
      clear e0 p1 p2 p3
      have hdn : (d : Int) ≤ n := by omega
      have hdc : (d : Int) ≤ cap := by omega
      go_enter Try.func10, Try.ntmps10
      go_wp2_with fail
      refine Calls.mono c1 ?_
      rintro ev w1 ⟨rfl, q, rfl⟩
      have g0q : (w.drewN q).cell? ⟨g, 0, none⟩ = some (.int .i64 B) := g0
      go_upto_region 7 with fail
      rw [HD.out]
      go_region
      have HL0 := Lib.hid (And.intro (H0.out.drewN (q + 1)) (onlyN (Only.refl g w) (q + 1)))
      have hbw : Below w.heap.size w (w.drewN (q + 1)) := below_drewN' (Below.refl _ _) _
      have hED := elts_drop HV.out.1 HN.out.1 (d := d) (by omega)
      obtain ⟨W, hW⟩ : ∃ W, w.drewN (q + 1) = W := ⟨_, rfl⟩
      rw [hW] at HL0 hbw ⊢
      obtain ⟨k0, hkz⟩ : ∃ k0 : Nat, k0 = 0 := ⟨0, rfl⟩
      obtain ⟨es', hes'⟩ : ∃ l, l = es.drop d := ⟨_, rfl⟩
      have hlen : (es.drop d).length = n - d := by rw [List.length_drop, HN.out.1]
      have HV' := Lib.hid (show Elts W EN.cells 7 (.slice (some ⟨b, off + d * 7, none⟩) (n - d) (cap - d)) es' ∧ (∀ b', (Value.slice (some ⟨b, off + d * 7, none⟩) (n - d) (cap - d)).ownBlock = some b' → b' ≠ g) ∧ ∀ e ∈ es', mayE e.t e.x e.c = true ∧ short e.c ∧ e.at_ W ∧ e.far g from by
        rw [hes']
        exact ⟨hED.below hbw, fun b' hb' => HV.out.2.1 b' hb', fun e he => by obtain ⟨q1, q2, q3, q4⟩ := HV.out.2.2 e (List.mem_of_mem_drop he); exact ⟨q1, q2, q3.below hbw, q4⟩⟩)
      have HN' := Lib.hid (show es'.length = n - d by rw [hes', hlen])
      have HM := Lib.hid HN.out.2
      have HST' := Lib.hid (show startG B at_ es = (k0, es') by rw [hes', hkz]; exact HST.out)
      have HA0 := Lib.hid (show B = B + (k0 : Int) by rw [hkz]; simp)
      have hk0 : k0 ≤ m := by omega
      obtain ⟨n', hn'⟩ : ∃ n', n - d = n' := ⟨_, rfl⟩
      obtain ⟨cap', hcap'⟩ : ∃ n', cap - d = n' := ⟨_, rfl⟩
      have hcl : n' ≤ cap' ∧ cap' ≤ 9223372036854775807 ∧ n' ≤ 10 := by omega
      obtain ⟨a', ha'⟩ : ∃ a', (some ⟨b, off + d * 7, none⟩ : Option Addr) = a' := ⟨_, rfl⟩
      rw [hn', hcap', ha'] at HV' ⊢
      rw [hn'] at HN'
      clear HST
      have HST := HST'
      clear HST' c1 hW hbw g0 g1 g2 gf g0q hED hes' hkz hlen HV HN HD hn' hcap' ha' hdn hdc x6
      obtain ⟨hlc', hcm', hl'⟩ := hcl
      go_wp2_with fail
      go_loopw [1, 69] (fun ai i wr => ∃ (j : Nat) (A : Int), j ≤ n' ∧ ai = .int .i64 A ∧ i = .int .i64 j ∧ (0 ≤ A ∧ A ≤ 100000) ∧ Hid (A = B + k0 + j) ∧ Hid (AppG v0 B T (ts.map EN.k) k0 es' W N g j wr)) (fun _ i _ => n' - (intOf i).toNat)
      case atStart => exact ⟨0, _, Nat.zero_le _, rfl, rfl, by have := HA0.out; omega, Lib.hid (by simpa using HA0.out), Lib.hid ⟨v0, ts, HL0.out.1, rfl, Only.refl _ _, .inl rfl⟩⟩
      case round =>
        obtain ⟨j, A, hj, rfl, rfl, ⟨hA1, hA2⟩, HA, HL⟩ := hrel
        by_cases hlt : j < n'
        · obtain ⟨v', fs, hL, hk, hO, hnw⟩ := HL.out
          obtain ⟨e, hej⟩ : ∃ e, es'[j]? = some e := ⟨_, List.getElem?_eq_getElem (by have := HN'.out; omega)⟩
          obtain ⟨hm, hsh, hat, hfar⟩ := HV'.out.2.2 e (List.mem_of_getElem? hej)
          obtain ⟨-, b, off, rfl, hbl, hc⟩ := HV'.out.1.at_ hej
          have hbg : b ≠ g := HV'.out.2.1 b rfl
          have k0' : wr.cell? ⟨b, off + j * 7, none⟩ = some (.int .i64 e.t) := (World.cell?_of_block (a := ⟨b, off + j * 7, none⟩) (hO.block b hbl hbg)).trans (hc 0 _ rfl)
          have k1' : wr.cell? ⟨b, off + j * 7 + 1, none⟩ = some (.int .i64 e.x) := (World.cell?_of_block (a := ⟨b, off + j * 7 + 1, none⟩) (hO.block b hbl hbg)).trans (hc 1 _ rfl)
          have k2' : wr.cell? ⟨b, off + j * 7 + 2, none⟩ = some (.int .i64 e.c.e) := (World.cell?_of_block (a := ⟨b, off + j * 7 + 2, none⟩) (hO.block b hbl hbg)).trans (hc 2 _ rfl)
          have k3' : wr.cell? ⟨b, off + j * 7 + 3, none⟩ = some (.int .i64 e.c.b) := (World.cell?_of_block (a := ⟨b, off + j * 7 + 3, none⟩) (hO.block b hbl hbg)).trans (hc 3 _ rfl)
          have k4' : wr.cell? ⟨b, off + j * 7 + 4, none⟩ = some (.int .i64 e.c.k) := (World.cell?_of_block (a := ⟨b, off + j * 7 + 4, none⟩) (hO.block b hbl hbg)).trans (hc 4 _ rfl)
          have k5' : wr.cell? ⟨b, off + j * 7 + 5, none⟩ = some (.slice e.a1 e.c.M.length e.q1) := (World.cell?_of_block (a := ⟨b, off + j * 7 + 5, none⟩) (hO.block b hbl hbg)).trans (hc 5 _ rfl)
          have k6' : wr.cell? ⟨b, off + j * 7 + 6, none⟩ = some (.slice e.a2 e.c.C.length e.q2) := (World.cell?_of_block (a := ⟨b, off + j * 7 + 6, none⟩) (hO.block b hbl hbg)).trans (hc 6 _ rfl)
          have hb1 := (Below.refl wr.heap.size wr).alloc (Nat.le_refl _) (.cells #[.int .i64 e.t, .int .i64 e.x, .int .i64 e.c.e, .int .i64 e.c.b, .int .i64 e.c.k, .slice e.a1 e.c.M.length e.q1, .slice e.a2 e.c.C.length e.q2] 46)
          have hy := heap_alloc_self wr (.cells #[.int .i64 e.t, .int .i64 e.x, .int .i64 e.c.e, .int .i64 e.c.b, .int .i64 e.c.k, .slice e.a1 e.c.M.length e.q1, .slice e.a2 e.c.C.length e.q2] 46)
          have hL1 := hL.below hb1
          have hO1 := hO.trans (onlyB hb1 (y := g))
          have hat1 := EN.at_.below (atO hat hfar hO) hb1
          have hgl := goK_len (ts.map EN.k) k0 ((es'.take j).map EN.k) (by rw [List.length_map, HM.out]; exact hk0)
          rw [← hk, List.length_map, List.length_map, List.length_map, List.length_take, HM.out, HN'.out, Nat.min_eq_left hj] at hgl
          have ca := rlayG e _ hat1 hsh hm N g hfar v' fs hL1 (by omega) (k0 + j) hgl.1
          rw [show B + ((k0 + j : Nat) : Int) + 1 = A + 1 by rw [HA.out]; omega] at ca
          have hkn : ∀ l : List (Int × Int × CF), l = layK (fs.map EN.k) (k0 + j) e.k → l = goK (ts.map EN.k) k0 ((es'.take (j + 1)).map EN.k) := fun l hl => by
            rw [hl, List.take_add_one, hej, hk]
            simp only [Option.toList_some, List.map_append, List.map_cons, List.map_nil]
            rw [goK_snoc, List.length_map, List.length_take, HN'.out, Nat.min_eq_left hj]
          have HX := Lib.hid (And.intro hO1 (And.intro hkn hnw))
          clear hnw hL hk hO hc hm hsh hat hfar hej hb1 hL1 hO1 hat1 hgl hkn hbl hbg
          go_upto_region 11 with fail
          generalize wr.alloc (.cells #[.int .i64 e.t, .int .i64 e.x, .int .i64 e.c.e, .int .i64 e.c.b, .int .i64 e.c.k, .slice e.a1 e.c.M.length e.q1, .slice e.a2 e.c.C.length e.q2] 46) = w2 at *
          have d0 := cell_atD hy 0 (v := .int .i64 e.t) rfl
          have d1 := cell_atD hy 1 (v := .int .i64 e.x) rfl
          have d2 := cell_atD hy 2 (v := .int .i64 e.c.e) rfl
          have d3 := cell_atD hy 3 (v := .int .i64 e.c.b) rfl
          have d4 := cell_atD hy 4 (v := .int .i64 e.c.k) rfl
          have d5 := cell_atD hy 5 (v := .slice e.a1 e.c.M.length e.q1) rfl
          have d6 := cell_atD hy 6 (v := .slice e.a2 e.c.C.length e.q2) rfl
          clear hy k0' k1' k2' k3' k4' k5' k6'
          go_wp2_with fail
          refine Calls.mono ca ?_
          rintro ev w3 ⟨rfl, v2, fs2, h2, hk2, ho2, hn2⟩
          have HF := Lib.hid (show AppG v0 B T (ts.map EN.k) k0 es' W N g (j + 1) w3 from ⟨v2, fs2, h2, HX.out.2.1 _ hk2, HX.out.1.trans ho2, newer HX.out.2.2 hn2 HX.out.1.size⟩)
          have HA2 := Lib.hid (show A + 1 = B + k0 + ((j + 1 : Nat) : Int) by rw [HA.out]; omega)
          clear h2 hk2 ho2 hn2 ca d0 d1 d2 d3 d4 d5 d6
          go_wp2_with fail
          go_roundw
          case rel => exact ⟨j + 1, A + 1, by omega, by go_num, by go_num, ⟨by omega, by have := HA2.out; omega⟩, HA2, HF⟩
          case measure => simp [intOf]; omega
        · obtain rfl : j = n' := by omega
          go_wp2_with fail
          go_returns
          obtain ⟨v', fs, h1, h2, h3, h4⟩ := HL.out
          refine ⟨?_, v', fs, h1, ?_, HL0.out.2.trans h3, h4.imp id fun f k e => Nat.le_trans HL0.out.2.size (f k e)⟩
          · (try rw [if_pos rfl])
            have e : A = toG B at_ es := by rw [HA.out]; unfold toG; rw [HST.out]; show _ = B + (k0 : Int) + (es'.length : Int); rw [HN'.out]
            rw [e]
            first
              | rfl
              | simp
          · (try rw [if_pos rfl])
            rw [HST.out, h2, ← HN'.out, List.take_length]
  · have hok4 : ok = (S == t) := by rw [hok3, show decide (at_ < B) = false by simpa using x3]; rfl
    have x4 : B ≤ at_ := by omega
    clear hok3
    by_cases x5 : S = t
    · have e : ok = true := by rw [hok4]; simpa using x5
      subst e
      clear hok4
      subst x5
      obtain ⟨k0, hk0'⟩ : ∃ k0 : Nat, at_ = B + k0 := ⟨(at_ - B).toNat, by omega⟩
      have hst : startG B at_ es = (k0, es) := by unfold startG; rw [if_neg x3, show (at_ - B).toNat = k0 by omega]
      have hk0 : k0 ≤ m := by omega
      have HST := Lib.hid hst
      have HA0 := Lib.hid hk0'
      clear hst hk0'
      go_enter Try.func10, Try.ntmps10
      go_wp2_with fail
      refine Calls.mono c1 ?_
      rintro ev w1 ⟨rfl, q, rfl⟩
      have g0q : (w.drewN q).cell? ⟨g, 0, none⟩ = some (.int .i64 B) := g0
      go_wp2_with fail
      refine Calls.mono (c2 q) ?_
      rintro ev w1 ⟨rfl, q2, rfl⟩
      rw [drewN_moreR]
      have g0r : (w.drewN (q + q2)).cell? ⟨g, 0, none⟩ = some (.int .i64 B) := g0
      have HL0 := Lib.hid (And.intro (H0.out.drewN (q + q2)) (onlyN (Only.refl g w) (q + q2)))
      have hbw : Below w.heap.size w (w.drewN (q + q2)) := below_drewN' (Below.refl _ _) _
      obtain ⟨W, hW⟩ : ∃ W, w.drewN (q + q2) = W := ⟨_, rfl⟩
      rw [hW] at HL0 hbw g0r ⊢
      obtain ⟨n', hn'⟩ : ∃ n', n' = n := ⟨_, rfl⟩
      obtain ⟨es', hes'⟩ : ∃ l, es = l := ⟨_, rfl⟩
      have HV' := Lib.hid (show Elts W EN.cells 7 (.slice a n' cap) es' ∧ (∀ b, (Value.slice a n' cap).ownBlock = some b → b ≠ g) ∧ ∀ e ∈ es', mayE e.t e.x e.c = true ∧ short e.c ∧ e.at_ W ∧ e.far g from by
        rw [hn', ← hes']
        exact ⟨HV.out.1.below hbw, HV.out.2.1, fun e he => by obtain ⟨q1, q2, q3, q4⟩ := HV.out.2.2 e he; exact ⟨q1, q2, q3.below hbw, q4⟩⟩)
      have HN' := Lib.hid (show es'.length = n' by rw [← hes', hn']; exact HN.out.1)
      have HM := Lib.hid HN.out.2
      have HST' := Lib.hid (show startG B at_ es = (k0, es') by rw [← hes']; exact HST.out)
      clear HST
      have HST := HST'
      clear HST' c1 c2 hW hbw g0 g1 g2 gf g0q
      subst hn'
      have HES := Lib.hid hes'
      clear HV HN hes'
      go_upto_region 8 with fail
      go_wp2_with fail
      go_loopw [1, 69] (fun ai i wr => ∃ (j : Nat) (A : Int), j ≤ n' ∧ ai = .int .i64 A ∧ i = .int .i64 j ∧ (0 ≤ A ∧ A ≤ 100000) ∧ Hid (A = B + k0 + j) ∧ Hid (AppG v0 B T (ts.map EN.k) k0 es' W N g j wr)) (fun _ i _ => n' - (intOf i).toNat)
      case atStart => exact ⟨0, _, Nat.zero_le _, rfl, rfl, by have := HA0.out; omega, Lib.hid (by simpa using HA0.out), Lib.hid ⟨v0, ts, HL0.out.1, rfl, Only.refl _ _, .inl rfl⟩⟩
      case round =>
        obtain ⟨j, A, hj, rfl, rfl, ⟨hA1, hA2⟩, HA, HL⟩ := hrel
        by_cases hlt : j < n'
        · obtain ⟨v', fs, hL, hk, hO, hnw⟩ := HL.out
          obtain ⟨e, hej⟩ : ∃ e, es'[j]? = some e := ⟨_, List.getElem?_eq_getElem (by have := HN'.out; omega)⟩
          obtain ⟨hm, hsh, hat, hfar⟩ := HV'.out.2.2 e (List.mem_of_getElem? hej)
          obtain ⟨-, b, off, rfl, hbl, hc⟩ := HV'.out.1.at_ hej
          have hbg : b ≠ g := HV'.out.2.1 b rfl
          have k0' : wr.cell? ⟨b, off + j * 7, none⟩ = some (.int .i64 e.t) := (World.cell?_of_block (a := ⟨b, off + j * 7, none⟩) (hO.block b hbl hbg)).trans (hc 0 _ rfl)
          have k1' : wr.cell? ⟨b, off + j * 7 + 1, none⟩ = some (.int .i64 e.x) := (World.cell?_of_block (a := ⟨b, off + j * 7 + 1, none⟩) (hO.block b hbl hbg)).trans (hc 1 _ rfl)
          have k2' : wr.cell? ⟨b, off + j * 7 + 2, none⟩ = some (.int .i64 e.c.e) := (World.cell?_of_block (a := ⟨b, off + j * 7 + 2, none⟩) (hO.block b hbl hbg)).trans (hc 2 _ rfl)
          have k3' : wr.cell? ⟨b, off + j * 7 + 3, none⟩ = some (.int .i64 e.c.b) := (World.cell?_of_block (a := ⟨b, off + j * 7 + 3, none⟩) (hO.block b hbl hbg)).trans (hc 3 _ rfl)
          have k4' : wr.cell? ⟨b, off + j * 7 + 4, none⟩ = some (.int .i64 e.c.k) := (World.cell?_of_block (a := ⟨b, off + j * 7 + 4, none⟩) (hO.block b hbl hbg)).trans (hc 4 _ rfl)
          have k5' : wr.cell? ⟨b, off + j * 7 + 5, none⟩ = some (.slice e.a1 e.c.M.length e.q1) := (World.cell?_of_block (a := ⟨b, off + j * 7 + 5, none⟩) (hO.block b hbl hbg)).trans (hc 5 _ rfl)
          have k6' : wr.cell? ⟨b, off + j * 7 + 6, none⟩ = some (.slice e.a2 e.c.C.length e.q2) := (World.cell?_of_block (a := ⟨b, off + j * 7 + 6, none⟩) (hO.block b hbl hbg)).trans (hc 6 _ rfl)
          have hb1 := (Below.refl wr.heap.size wr).alloc (Nat.le_refl _) (.cells #[.int .i64 e.t, .int .i64 e.x, .int .i64 e.c.e, .int .i64 e.c.b, .int .i64 e.c.k, .slice e.a1 e.c.M.length e.q1, .slice e.a2 e.c.C.length e.q2] 46)
          have hy := heap_alloc_self wr (.cells #[.int .i64 e.t, .int .i64 e.x, .int .i64 e.c.e, .int .i64 e.c.b, .int .i64 e.c.k, .slice e.a1 e.c.M.length e.q1, .slice e.a2 e.c.C.length e.q2] 46)
          have hL1 := hL.below hb1
          have hO1 := hO.trans (onlyB hb1 (y := g))
          have hat1 := EN.at_.below (atO hat hfar hO) hb1
          have hgl := goK_len (ts.map EN.k) k0 ((es'.take j).map EN.k) (by rw [List.length_map, HM.out]; exact hk0)
          rw [← hk, List.length_map, List.length_map, List.length_map, List.length_take, HM.out, HN'.out, Nat.min_eq_left hj] at hgl
          have ca := rlayG e _ hat1 hsh hm N g hfar v' fs hL1 (by omega) (k0 + j) hgl.1
          rw [show B + ((k0 + j : Nat) : Int) + 1 = A + 1 by rw [HA.out]; omega] at ca
          have hkn : ∀ l : List (Int × Int × CF), l = layK (fs.map EN.k) (k0 + j) e.k → l = goK (ts.map EN.k) k0 ((es'.take (j + 1)).map EN.k) := fun l hl => by
            rw [hl, List.take_add_one, hej, hk]
            simp only [Option.toList_some, List.map_append, List.map_cons, List.map_nil]
            rw [goK_snoc, List.length_map, List.length_take, HN'.out, Nat.min_eq_left hj]
          have HX := Lib.hid (And.intro hO1 (And.intro hkn hnw))
          clear hnw hL hk hO hc hm hsh hat hfar hej hb1 hL1 hO1 hat1 hgl hkn hbl hbg
          go_upto_region 11 with fail
          generalize wr.alloc (.cells #[.int .i64 e.t, .int .i64 e.x, .int .i64 e.c.e, .int .i64 e.c.b, .int .i64 e.c.k, .slice e.a1 e.c.M.length e.q1, .slice e.a2 e.c.C.length e.q2] 46) = w2 at *
          have d0 := cell_atD hy 0 (v := .int .i64 e.t) rfl
          have d1 := cell_atD hy 1 (v := .int .i64 e.x) rfl
          have d2 := cell_atD hy 2 (v := .int .i64 e.c.e) rfl
          have d3 := cell_atD hy 3 (v := .int .i64 e.c.b) rfl
          have d4 := cell_atD hy 4 (v := .int .i64 e.c.k) rfl
          have d5 := cell_atD hy 5 (v := .slice e.a1 e.c.M.length e.q1) rfl
          have d6 := cell_atD hy 6 (v := .slice e.a2 e.c.C.length e.q2) rfl
          clear hy k0' k1' k2' k3' k4' k5' k6'
          go_wp2_with fail
          refine Calls.mono ca ?_
          rintro ev w3 ⟨rfl, v2, fs2, h2, hk2, ho2, hn2⟩
          have HF := Lib.hid (show AppG v0 B T (ts.map EN.k) k0 es' W N g (j + 1) w3 from ⟨v2, fs2, h2, HX.out.2.1 _ hk2, HX.out.1.trans ho2, newer HX.out.2.2 hn2 HX.out.1.size⟩)
          have HA2 := Lib.hid (show A + 1 = B + k0 + ((j + 1 : Nat) : Int) by rw [HA.out]; omega)
          clear h2 hk2 ho2 hn2 ca d0 d1 d2 d3 d4 d5 d6
          go_wp2_with fail
          go_roundw
          case rel => exact ⟨j + 1, A + 1, by omega, by go_num, by go_num, ⟨by omega, by have := HA2.out; omega⟩, HA2, HF⟩
          case measure => simp [intOf]; omega
        · obtain rfl : j = n' := by omega
          go_wp2_with fail
          go_returns
          obtain ⟨v', fs, h1, h2, h3, h4⟩ := HL.out
          refine ⟨?_, v', fs, h1, ?_, HL0.out.2.trans h3, h4.imp id fun f k e => Nat.le_trans HL0.out.2.size (f k e)⟩
          · (try rw [if_pos rfl])
            have e : A = toG B at_ es := by rw [HA.out]; unfold toG; rw [HST.out]; show _ = B + (k0 : Int) + (es'.length : Int); rw [HN'.out]
            rw [e]
            first
              | rfl
              | simp
          · (try rw [if_pos rfl])
            rw [HST.out, h2, ← HN'.out, List.take_length]
    · have e : ok = false := by rw [hok4]; simpa using x5
      subst e
      clear hok4
      have tS : (S == t) = false := by simpa using x5
      have tS2 : (S != t) = true := by simpa using x5
      go_enter Try.func10, Try.ntmps10
      go_wp2_with fail
      refine Calls.mono c1 ?_
      rintro ev w1 ⟨rfl, q, rfl⟩
      have g0q : (w.drewN q).cell? ⟨g, 0, none⟩ = some (.int .i64 B) := g0
      go_wp2_with fail
      refine Calls.mono (c2 q) ?_
      rintro ev w1 ⟨rfl, q2, rfl⟩
      rw [drewN_moreR]
      go_wp2_with fail
      go_returns
      exact ⟨by simp, v0, ts, H0.out.drewN _, by simp, onlyN (Only.refl _ _) _, .inl rfl⟩
end Go.Proofs.Ytkdmnhmlkcejfaa
