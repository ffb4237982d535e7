/-
  flat.spansOf: a block's values and their spans.
-/
import Derived.Test.YtodjlaapmbnahaaFsA
namespace Go.Proofs.Ytodjlaapmbnahaa
open Go.RowKit
set_option linter.unusedVariables false
set_option linter.unusedSimpArgs false

theorem noughts (w : World) : Calls Try.prog 26 #[] w fun e w' => e = .returned (.string (zeroL 32)) ∧ Below w.heap.size w w' := by
  have c := repeat0 32 w (by decide)
  go_enter Try.func26, Try.ntmps26
  go_wp2_with fail
  refine Calls.mono c ?_
  rintro e w1 ⟨rfl, hb⟩
  have HB := Lib.hid hb
  clear hb c
  go_wp2_with fail
  go_ret
  exact ⟨rfl, HB.out⟩
theorem spinfo : (Try.prog.info? 63).map (fun i => (i.zero, i.size, i.bytes)) = some (some (.agg #[.string ⟨#[]⟩, .int .i64 0, .int .i64 0]), 3, 32) := by kernel_rfl
theorem intinfo : (Try.prog.info? 3).map (fun i => (i.zero, i.size, i.bytes)) = some (some (.int .i64 0), 1, 8) := by kernel_rfl
theorem sC_app (a b : List Sp) : sC (a ++ b) = sC a ++ sC b := by simp [sC]
theorem sC_len : ∀ l : List Sp, (sC l).length = l.length * 3
  | [] => rfl
  | s :: l => by
    show (Sp.c s ++ sC l).length = _
    rw [List.length_append, sC_len l]
    show 3 + l.length * 3 = (l.length + 1) * 3
    omega
theorem sC_one (l : List Sp) : ∀ y ∈ sC l, y.oneCell' = true := by
  intro y hy
  simp only [sC, List.mem_flatMap] at hy
  obtain ⟨u, hu, hy⟩ := hy
  simp only [Sp.c, List.mem_cons, List.not_mem_nil, or_false] at hy
  rcases hy with rfl | rfl | rfl <;> rfl
def wC (l : List Sp) : List Value := l.map fun s => .int .i64 s.wr
theorem wC_one (l : List Sp) : ∀ y ∈ wC l, y.oneCell' = true := by
  intro y hy
  obtain ⟨s, _, rfl⟩ := List.mem_map.1 hy
  rfl
/-- what is gathered, in a world -/
structure SRel (N b n : Nat) (l : List Sp) (sv wv : Value) (w0 wr : World) : Prop where
  s : wr.ownsRow N 63 3 sv l.length (sC l)
  w : wr.ownsRow N 3 1 wv l.length (wC l)
  m : Place wr b n l
  nb : N ≤ b
  low : Below N w0 wr
  big : N ≤ wr.heap.size
theorem SRel.below {N b n : Nat} {l : List Sp} {sv wv : Value} {w0 wr w' : World} (h : SRel N b n l sv wv w0 wr) (hb : Below wr.heap.size wr w') : SRel N b n l sv wv w0 w' :=
  ⟨owns_below h.s hb, owns_below h.w hb, h.m.below hb, h.nb, h.low.trans (hb.mono h.big), Nat.le_trans h.big hb.size⟩
theorem rowForm {w : World} {base size n : Nat} {e : TypeId} {v : Value} {xs : List Value} (h : w.ownsRow base e size v n xs) : ∃ a c, v = .slice a n c := by
  rcases h.2 with ⟨rfl, rfl⟩ | ⟨g, cap, cur, rfl, _⟩
  · exact ⟨none, 0, rfl⟩
  · exact ⟨_, cap, rfl⟩
theorem row_map {w : World} {base size n b k : Nat} {e : TypeId} {v : Value} {xs : List Value} {l : List Sp} (h : w.ownsRow base e size v n xs) (hp : Place w b k l) : v.ownBlock ≠ some b := fun q => by
  obtain ⟨cur, hc⟩ := own_typeP h q
  obtain ⟨D, ⟨es, clock, hb, F⟩, _⟩ := hp
  rw [hb] at hc
  cases hc
theorem rows_ne {w : World} {B1 B2 s1 s2 n1 n2 : Nat} {e1 e2 : TypeId} {v1 v2 : Value} {x1 x2 : List Value} (h1 : w.ownsRow B1 e1 s1 v1 n1 x1) (h2 : w.ownsRow B2 e2 s2 v2 n2 x2) (hne : e1 ≠ e2) : v1.ownBlock = none ∨ v1.ownBlock ≠ v2.ownBlock := by
  cases h : v1.ownBlock with
  | none => exact .inl rfl
  | some g =>
    refine .inr fun e => ?_
    obtain ⟨c1, h3⟩ := own_typeP h1 h
    obtain ⟨c2, h4⟩ := own_typeP h2 e.symm
    rw [h3] at h4
    injection h4 with h4
    injection h4 with _ h4
    exact hne h4
theorem row_obj {w : World} {base size n P : Nat} {e t : TypeId} {v : Value} {xs : List Value} {A : Array Value} (h : w.ownsRow base e size v n xs) (hp : w.heap[P]? = some (.cells A t)) (hne : e ≠ t) : v.ownBlock ≠ some P := fun q => by
  obtain ⟨cur, hc⟩ := own_typeP h q
  rw [hp] at hc
  injection hc with hc
  injection hc with _ h2
  exact hne h2.symm
theorem obj_map {w : World} {b k P : Nat} {l : List Sp} {A : Array Value} {t : TypeId} (hp : Place w b k l) (hP : w.heap[P]? = some (.cells A t)) : P ≠ b := by
  rintro rfl
  obtain ⟨D, ⟨es, clock, hb, F⟩, _⟩ := hp
  rw [hb] at hP
  cases hP
theorem SRel.app {N b n P : Nat} {l : List Sp} {sv wv v1 v2 : Value} {w0 w6 w7 w8 w9 : World} {x : Sp} {o1 o2 : Obj} {A : Array Value} (h : SRel N b n l sv wv w0 w6) (hpl : Place w7 b (n + 1) (l ++ [x])) (hg7 : w6.grownBy w7 (some b))
    (ho1 : w8.ownsRow N 63 3 v1 (l.length + 1) (sC l ++ sC [x])) (hg8 : (w7.alloc o1).grownBy w8 sv.ownBlock) (ho2 : w9.ownsRow N 3 1 v2 (l.length + 1) (wC l ++ wC [x])) (hg9 : (w8.alloc o2).grownBy w9 wv.ownBlock)
    (hP : w6.heap[P]? = some (.cells A 72)) : SRel N b (n + 1) (l ++ [x]) v1 v2 w0 w9 ∧ w9.heap[P]? = some (.cells A 72) := by
  have hPb : P ≠ b := by
    rintro rfl
    obtain ⟨D, ⟨es, clock, hb, F⟩, _⟩ := h.m
    rw [hb] at hP
    cases hP
  have a7 : Below w7.heap.size w7 (w7.alloc o1) := (Below.refl _ _).alloc (Nat.le_refl _) o1
  have a8 : Below w8.heap.size w8 (w8.alloc o2) := (Below.refl _ _).alloc (Nat.le_refl _) o2
  have s7 := h.s.kept hg7 (.inr (row_map h.s h.m))
  have w7' := h.w.kept hg7 (.inr (row_map h.w h.m))
  have P7 : w7.heap[P]? = some (.cells A 72) := (hg7.block P (lt_heap hP) (fun e => by have := Option.some.inj e; omega)).trans hP
  have s7a := owns_below s7 a7
  have w7a := owns_below w7' a7
  have m7a := hpl.below a7
  have P7a := below_at a7 (lt_heap P7) P7
  have w8' := w7a.kept hg8 (rows_ne w7a s7a (by decide))
  have m8 : Place w8 b (n + 1) (l ++ [x]) := m7a.move (hg8.block b m7a.lt (fun e => row_map s7a m7a e.symm))
  have P8 : w8.heap[P]? = some (.cells A 72) := (hg8.block P (lt_heap P7a) (fun e => row_obj s7a P7a (by decide) e.symm)).trans P7a
  have s8a := owns_below ho1 a8
  have w8a := owns_below w8' a8
  have m8a := m8.below a8
  have P8a := below_at a8 (lt_heap P8) P8
  have s9 := s8a.kept hg9 (rows_ne s8a w8a (by decide))
  have m9 : Place w9 b (n + 1) (l ++ [x]) := m8a.move (hg9.block b m8a.lt (fun e => row_map w8a m8a e.symm))
  have P9 : w9.heap[P]? = some (.cells A 72) := (hg9.block P (lt_heap P8a) (fun e => row_obj w8a P8a (by decide) e.symm)).trans P8a
  have n7 : N ≤ w7.heap.size := Nat.le_trans h.big hg7.size
  have l7 : Below N w0 w7 := h.low.grown hg7 h.big (fun k e => by have := Option.some.inj e; have := h.nb; omega)
  have l7a := l7.alloc n7 o1
  have n7a : N ≤ (w7.alloc o1).heap.size := Nat.le_trans n7 a7.size
  have l8 : Below N w0 w8 := l7a.grown hg8 n7a (fun k e => (s7a.lt k e).1)
  have n8 : N ≤ w8.heap.size := Nat.le_trans n7a hg8.size
  have l8a := l8.alloc n8 o2
  have n8a : N ≤ (w8.alloc o2).heap.size := Nat.le_trans n8 a8.size
  have l9 : Below N w0 w9 := l8a.grown hg9 n8a (fun k e => (w8a.lt k e).1)
  refine ⟨⟨?_, ?_, m9, h.nb, l9, Nat.le_trans n8a hg9.size⟩, P9⟩
  · rw [List.length_append, sC_app]; exact s9
  · rw [List.length_append, show wC (l ++ [x]) = wC l ++ wC [x] by simp [wC]]; exact ho2
theorem rowAt {w : World} {base size n : Nat} {e : TypeId} {v : Value} {xs : List Value} (h : w.ownsRow base e size v n xs) (hn : 0 < n) : ∃ g c, v = .slice (some ⟨g, 0, none⟩) n c := by
  rcases h.2 with ⟨rfl, rfl⟩ | ⟨g, cap, cur, rfl, _⟩
  · omega
  · exact ⟨g, cap, rfl⟩
theorem sC_get {l : List Sp} {i : Nat} {x : Sp} (hx : l[i]? = some x) (k : Nat) (v : Value) (hv : (Sp.c x)[k]? = some v) : (sC l)[i * 3 + k]? = some v := flat_get (c := Sp.c) (sz := 3) (fun _ => rfl) l i x hx k v hv
theorem sC_modify : ∀ (l : List Sp) (i : Nat) (x : Sp) (u : Us), l[i]? = some x → sC (l.modify i (fun s => s.upd u)) = ((sC l).set (i * 3 + 1) (.int .i64 (min x.e u.til))).set (i * 3 + 2) (.int .i64 (max x.b u.from_))
  | [], i, x, u, h => by simp at h
  | s :: l, 0, x, u, h => by
    simp only [List.getElem?_cons_zero, Option.some.injEq] at h
    subst h
    rfl
  | s :: l, i + 1, x, u, h => by
    have ih := sC_modify l i x u (by simpa using h)
    show Sp.c s ++ sC (l.modify i (fun s => s.upd u)) = ((Sp.c s ++ sC l).set ((i + 1) * 3 + 1) _).set ((i + 1) * 3 + 2) _
    rw [ih, List.set_append_right _ _ (by show 3 ≤ _; omega), List.set_append_right _ _ (by show 3 ≤ _; omega)]
    show _ = Sp.c s ++ ((sC l).set ((i + 1) * 3 + 1 - 3) _).set ((i + 1) * 3 + 2 - 3) _
    rw [show (i + 1) * 3 + 1 - 3 = i * 3 + 1 by omega, show (i + 1) * 3 + 2 - 3 = i * 3 + 2 by omega]
theorem wC_modify : ∀ (l : List Sp) (i : Nat) (x : Sp) (u : Us), l[i]? = some x → wC (l.modify i (fun s => s.upd u)) = (wC l).set i (.int .i64 (if u.wr then u.from_ else x.wr))
  | [], i, x, u, h => by simp at h
  | s :: l, 0, x, u, h => by
    simp only [List.getElem?_cons_zero, Option.some.injEq] at h
    subst h
    rfl
  | s :: l, i + 1, x, u, h => by
    have ih := wC_modify l i x u (by simpa using h)
    show (.int .i64 s.wr) :: wC (l.modify i (fun s => s.upd u)) = (.int .i64 s.wr) :: (wC l).set i _
    rw [ih]
/-- what stores to the spans' own row leave -/
def Turned (N b n P : Nat) (l : List Sp) (xs : List Value) (sv wv : Value) (A : Array Value) (w0 w : World) : Prop := w.ownsRow N 63 3 sv l.length xs ∧ w.ownsRow N 3 1 wv l.length (wC l) ∧ Place w b n l ∧ N ≤ b ∧ Below N w0 w ∧ N ≤ w.heap.size ∧ w.heap[P]? = some (.cells A 72)
theorem SRel.turned {N b n P : Nat} {l : List Sp} {sv wv : Value} {w0 wr : World} {A : Array Value} (h : SRel N b n l sv wv w0 wr) (hP : wr.heap[P]? = some (.cells A 72)) : Turned N b n P l (sC l) sv wv A w0 wr := ⟨h.s, h.w, h.m, h.nb, h.low, h.big, hP⟩
theorem Turned.set {N b n P g m c j : Nat} {l : List Sp} {xs : List Value} {wv u : Value} {w0 w : World} {A : Array Value} (hm : l.length = m) (h : Turned N b n P l xs (.slice (some ⟨g, 0, none⟩) m c) wv A w0 w) : Turned N b n P l (xs.set j u) (.slice (some ⟨g, 0, none⟩) m c) wv A w0 (w.setCell ⟨g, j, none⟩ u) := by
  subst hm
  obtain ⟨h1, h2, h3, h4, h5, h6, h7⟩ := h
  have hst := h1.stored j u
  have hg := (h1.lt g rfl)
  refine ⟨hst.1, h2.kept hst.2 (rows_ne h2 h1 (by decide)), h3.move (hst.2.block b h3.lt (fun e => row_map h1 h3 e.symm)), h4, h5.setCell (by show N ≤ g; exact hg.1) _, Nat.le_trans h6 hst.2.size, (hst.2.block P (lt_heap h7) (fun e => row_obj h1 h7 (by decide) e.symm)).trans h7⟩
theorem Turned.below {N b n P : Nat} {l : List Sp} {xs : List Value} {sv wv : Value} {w0 w w' : World} {A : Array Value} (h : Turned N b n P l xs sv wv A w0 w) (hb : Below w.heap.size w w') : Turned N b n P l xs sv wv A w0 w' :=
  ⟨owns_below h.1 hb, owns_below h.2.1 hb, h.2.2.1.below hb, h.2.2.2.1, h.2.2.2.2.1.trans (hb.mono h.2.2.2.2.2.1), Nat.le_trans h.2.2.2.2.2.1 hb.size, below_at hb (lt_heap h.2.2.2.2.2.2) h.2.2.2.2.2.2⟩
def SpansP (us : List Us) (w : World) (e : Ending) (w' : World) : Prop := match spansL [⟨zeroL 32, -1, -1, -1⟩] us with
  | none => e = .returned (.tuple #[.slice none 0 0, .slice none 0 0, .bool false]) ∧ Below w.heap.size w w'
  | some L => ∃ v v2, e = .returned (.tuple #[v, v2, .bool true]) ∧ w'.ownsRow w.heap.size 63 3 v L.length (sC L) ∧ w'.ownsRow w.heap.size 3 1 v2 L.length (wC L) ∧ Below w.heap.size w w'
structure UsOk (u : Us) : Prop where
  val : u.val.size ≤ maxLen
  f0 : -1 ≤ u.from_ ∧ u.from_ ≤ NV
  t0 : -1 ≤ u.til ∧ u.til ≤ NV
set_option maxHeartbeats 6400000 in
set_option maxRecDepth 100000 in
theorem pspans (us : List Us) (hl : us.length ≤ 10000) (hok : ∀ u ∈ us, UsOk u) (v : Value) (w : World) (hv : Elts w Us.c 4 v us) : Calls Try.prog 19 #[v] w (SpansP us w) := by
  obtain ⟨i0, hi, hz0, hz1, hz2⟩ := info_parts spinfo
  obtain ⟨k0, hk, hy0, hy1, hy2⟩ := info_parts intinfo
  obtain ⟨a, cap, rfl, hlc, hcm⟩ := elts_len hv
  obtain ⟨N, hN⟩ : ∃ N, w.heap.size = N := ⟨_, rfl⟩
  obtain ⟨n, hnn⟩ : ∃ n, us.length = n := ⟨_, rfl⟩
  have HE := Lib.hid (And.intro hv (And.intro hok (And.intro hN hnn)))
  have c1 := noughts w
  have c2 := fun w => noughts w
  rw [hnn] at hl hlc ⊢
  unfold maxLen at hcm
  clear hv hok hN hnn
  go_enter Try.func19, Try.ntmps19
  go_wp2_with fail
  refine Calls.mono c1 ?_
  rintro e w1 ⟨rfl, hb1⟩
  have hba : Below w1.heap.size w1 (w1.alloc (.cells #[.string (zeroL 32), .int .i64 (-1), .int .i64 (-1)] 63)) := (Below.refl _ _).alloc (Nat.le_refl _) _
  have hr1 : (w1.alloc (.cells #[.string (zeroL 32), .int .i64 (-1), .int .i64 (-1)] 63)).ownsRow N 63 3 (.slice (some ⟨w1.heap.size, 0, none⟩) 1 1) 1 (sC [⟨zeroL 32, -1, -1, -1⟩]) := World.ownsRow_lit (base := N) w1 #[.string (zeroL 32), .int .i64 (-1), .int .i64 (-1)] 1 (by rw [← HE.out.2.2.1]; exact hb1.size) (by decide) rfl
  obtain ⟨g1, hg1⟩ : ∃ g1, w1.heap.size = g1 := ⟨_, rfl⟩
  rw [hg1] at hr1
  have H1 := Lib.hid (And.intro (show Below N w w1 by rw [← HE.out.2.2.1]; exact hb1) (And.intro (hba.mono (show N ≤ w1.heap.size by rw [← HE.out.2.2.1]; exact hb1.size)) (And.intro hr1 (show N ≤ w1.heap.size by rw [← HE.out.2.2.1]; exact hb1.size))))
  clear hb1 hba hr1 c1
  go_upto_region 2 with fail
  try rw [hg1]
  generalize w1.alloc (.cells #[.string (zeroL 32), .int .i64 (-1), .int .i64 (-1)] 63) = w2 at *
  clear hg1
  have hbb : Below w2.heap.size w2 (w2.alloc (.cells #[.int .i64 (-1)] 3)) := (Below.refl _ _).alloc (Nat.le_refl _) _
  have hN2 : N ≤ w2.heap.size := Nat.le_trans H1.out.2.2.2 (by have := (H1.out.2.2.1.lt g1 rfl).2; have := (H1.out.2.2.1.lt g1 rfl).1; have := H1.out.2.1.size; exact this)
  have hr2 : (w2.alloc (.cells #[.int .i64 (-1)] 3)).ownsRow N 3 1 (.slice (some ⟨w2.heap.size, 0, none⟩) 1 1) 1 (wC [⟨zeroL 32, -1, -1, -1⟩]) := World.ownsRow_lit (base := N) w2 #[.int .i64 (-1)] 1 hN2 (by decide) rfl
  obtain ⟨g2, hg2⟩ : ∃ g2, w2.heap.size = g2 := ⟨_, rfl⟩
  have hr1 := owns_below H1.out.2.2.1 hbb
  rw [hg2] at hr2
  have H2 := Lib.hid (And.intro (H1.out.1.trans (H1.out.2.1.trans (hbb.mono hN2))) (And.intro hr1 (And.intro hr2 (Nat.le_trans hN2 hbb.size))))
  clear hbb hr1 hr2 H1
  go_upto_region 3 with fail
  try rw [hg2]
  generalize w2.alloc (.cells #[.int .i64 (-1)] 3) = w3 at *
  clear hg2 hN2
  have hmm := @run_makeMap Try.prog
  have hbm : Below w3.heap.size w3 (w3.alloc (.map #[] 0)) := (Below.refl _ _).alloc (Nat.le_refl _) _
  have HP := Lib.hid (And.intro (place_made w3) hbm)
  have c3 := noughts (w3.alloc (.map #[] 0))
  clear hbm
  go_wp2_with fail
  refine Calls.mono c3 ?_
  rintro e w4 ⟨rfl, hb4⟩
  obtain ⟨w5, hup, hpl, hgr⟩ := (HP.out.1.below hb4).store (zeroL 32) (by rw [zeroL_size]; decide) rfl (by decide) (by decide) (-1) (-1) (-1)
  obtain ⟨b, hb⟩ : ∃ b, w3.heap.size = b := ⟨_, rfl⟩
  have hb34 : Below w3.heap.size w3 w4 := HP.out.2.trans (hb4.mono HP.out.2.size)
  have hb35 : Below w3.heap.size w3 w5 := ⟨hgr.os.trans hb34.os, hgr.tape.trans hb34.tape, hgr.output.trans hb34.output, Nat.le_trans hb34.size hgr.size, fun k hk => (hgr.block k (Nat.lt_of_lt_of_le hk hb34.size) (fun e => by have := Option.some.inj e; omega)).trans (hb34.block k hk)⟩
  have hR : SRel N b 1 [⟨zeroL 32, -1, -1, -1⟩] (.slice (some ⟨g1, 0, none⟩) 1 1) (.slice (some ⟨g2, 0, none⟩) 1 1) w w5 := by
    rw [← hb]
    exact ⟨owns_below H2.out.2.1 hb35, owns_below H2.out.2.2.1 hb35, hpl, H2.out.2.2.2, H2.out.1.trans (hb35.mono H2.out.2.2.2), Nat.le_trans H2.out.2.2.2 hb35.size⟩
  have HR0 := Lib.hid hR
  rw [hb] at hup
  replace hup : (Instr.mapUpdate 81 (.map (some b)) (.string (zeroL 32)) (.int .i64 0)).run Try.prog w4 = .ok () w5 := hup
  try rw [hb]
  clear hb4 hpl hgr hb34 hb35 hR c3 hb H2 HP
  go_wp2_with fail
  clear hup
  go_loopw [5, 6, 22] (fun sv wv iv wr => ∃ (j : Nat) (l : List Sp), j ≤ n ∧ iv = .int .i64 (j : Int) ∧ Hid (spansL [⟨zeroL 32, -1, -1, -1⟩] (us.take j) = some l) ∧ Hid (SRel N b (j + 1) l sv wv w wr)) (fun _ _ iv _ => n - (intOf iv).toNat)
  case atStart => exact ⟨0, _, Nat.zero_le _, rfl, Lib.hid rfl, HR0⟩
  case round =>
    obtain ⟨j, l, hj, rfl, HL, HR⟩ := hrel
    clear HR0
    by_cases hlt : j < n
    · obtain ⟨u, hu⟩ : ∃ u, us[j]? = some u := ⟨_, List.getElem?_eq_getElem (by have := HE.out.2.2.2; omega)⟩
      have huk := HE.out.2.1 u (List.mem_of_getElem? hu)
      obtain ⟨hub, huf, hut⟩ := huk
      obtain ⟨-, ub, uo, rfl, hubl, hcu⟩ := (HE.out.1.below (HR.out.low.mono (Nat.le_of_eq HE.out.2.2.1))).at_ hu
      have k0 : wr.cell? ⟨ub, uo + j * 4, none⟩ = some (.bool u.wr) := hcu 0 _ rfl
      have k1 : wr.cell? ⟨ub, uo + j * 4 + 1, none⟩ = some (.string u.val) := hcu 1 _ rfl
      have k2 : wr.cell? ⟨ub, uo + j * 4 + 2, none⟩ = some (.int .i64 u.from_) := hcu 2 _ rfl
      have k3 : wr.cell? ⟨ub, uo + j * 4 + 3, none⟩ = some (.int .i64 u.til) := hcu 3 _ rfl
      have hb6 : Below wr.heap.size wr (wr.alloc (.cells #[.bool u.wr, .string u.val, .int .i64 u.from_, .int .i64 u.til] 72)) := (Below.refl _ _).alloc (Nat.le_refl _) _
      have hp6 := heap_alloc_self wr (.cells #[.bool u.wr, .string u.val, .int .i64 u.from_, .int .i64 u.til] 72)
      have hR6 := HR.out.below hb6
      have hll : l.length ≤ j + 1 := by
        have := spans_len _ _ _ HL.out
        rw [List.length_take] at this
        simp at this
        omega
      have hnx : spansL [⟨zeroL 32, -1, -1, -1⟩] (us.take (j + 1)) = spStep l u := by
        rw [take_next hu, spans_app, HL.out]
      obtain ⟨P, hP⟩ : ∃ P, wr.heap.size = P := ⟨_, rfl⟩
      rw [hP] at hp6
      obtain ⟨c, hlk, hci⟩ := hR6.m.look u.val hub
      have hNP : N ≤ P := by rw [← hP]; exact HR.out.big
      have H6 := Lib.hid (And.intro hR6 (And.intro hp6 (And.intro hnx (And.intro hub (And.intro huf (And.intro hut hNP))))))
      clear hcu hb6 hR6 hnx hu HR hubl
      go_upto_region 7 with fail
      try rw [hP]
      generalize wr.alloc (.cells #[.bool u.wr, .string u.val, .int .i64 u.from_, .int .i64 u.til] 72) = w6 at *
      clear k0 k1 k2 k3 hP HL
      have e0 := cell_atF hp6 0 (v := .bool u.wr) rfl
      have e1 := cell_atF hp6 1 (v := .string u.val) rfl
      have e2 := cell_atF hp6 2 (v := .int .i64 u.from_) rfl
      have e3 := cell_atF hp6 3 (v := .int .i64 u.til) rfl
      clear hp6
      obtain ⟨mt, hmt⟩ : ∃ mt, (spIx l u.val).isSome = mt := ⟨_, rfl⟩
      rw [hmt] at hlk
      have HMT := Lib.hid hmt
      clear hmt
      go_upto_if 34 with fail
      go_cut [5, 6, 10] from 35 to 49 (fun sv wv iv wx => iv = .int .i64 (ixV l u.val : Int) ∧ Hid (SRel N b (j + 2) (withV l u.val) sv wv w wx ∧ wx.heap[P]? = some (.cells #[.bool u.wr, .string u.val, .int .i64 u.from_, .int .i64 u.til] 72)))
      case first =>
        cases hix : spIx l u.val with
        | some i =>
          have hci2 := hci i hix
          subst hci2
          have hmt : mt = true := by rw [← HMT.out, hix]; rfl
          subst hmt
          have e1' : withV l u.val = l := by unfold withV; rw [hix]
          have e2' : ixV l u.val = i := by unfold ixV; rw [hix]
          have HF := Lib.hid (show SRel N b (j + 2) (withV l u.val) u5 u6 w w6 ∧ w6.heap[P]? = some (.cells #[.bool u.wr, .string u.val, .int .i64 u.from_, .int .i64 u.til] 72) from by rw [e1']; exact ⟨⟨H6.out.1.s, H6.out.1.w, (let ⟨D, h1, h2⟩ := H6.out.1.m; ⟨D, h1.mono (Nat.le_succ _), h2⟩), H6.out.1.nb, H6.out.1.low, H6.out.1.big⟩, H6.out.2.1⟩)
          clear e1' hci hix
          go_wp2_with fail
          go_meet
          exact ⟨by rw [e2'], HF⟩
        | none =>
          have hmt : mt = false := by rw [← HMT.out, hix]; rfl
          subst hmt
          obtain ⟨sa, sc, rfl⟩ := rowForm H6.out.1.s
          obtain ⟨wa, wc', rfl⟩ := rowForm H6.out.1.w
          obtain ⟨w7, hup, hpl, hgr7⟩ := H6.out.1.m.store u.val hub hix (by unfold maxLen; omega) (by omega) NV (-1) NV
          have e1' : withV l u.val = l ++ [⟨u.val, NV, -1, NV⟩] := by unfold withV; rw [hix]
          have e2' : ixV l u.val = l.length := by unfold ixV; rw [hix]
          have hs7 := H6.out.1.s.kept hgr7 (.inr (row_map H6.out.1.s H6.out.1.m))
          have hw7 := H6.out.1.w.kept hgr7 (.inr (row_map H6.out.1.w H6.out.1.m))
          have hn7 : N ≤ w7.heap.size := Nat.le_trans H6.out.1.big hgr7.size
          have p7 := (hgr7.block P (lt_heap H6.out.2.1) (fun e => by have := Option.some.inj e; have := obj_map H6.out.1.m H6.out.2.1; omega)).trans H6.out.2.1
          have HG := Lib.hid (And.intro hpl (And.intro hgr7 (And.intro hs7 (And.intro hw7 (And.intro hn7 (And.intro e1' (And.intro e2' p7)))))))
          have e1 := cell_atF p7 1 (v := .string u.val) rfl
          obtain ⟨m, hm⟩ : ∃ m, l.length = m := ⟨_, rfl⟩
          rw [hm] at hup hll HG ⊢
          have HMM := Lib.hid hm
          clear hpl hgr7 hs7 hw7 hn7 e1' e2' p7 hci hix hlk hm e0 e2 e3
          have ha7 : Below w7.heap.size w7 (w7.alloc (.cells #[.string u.val, .int .i64 1073741824, .int .i64 (-1)] 63)) := (Below.refl _ _).alloc (Nat.le_refl _) _
          have HA7 := Lib.hid ha7
          clear ha7
          go_wp2_with (at_builtin; refine wp_app Try.underlying25 hi hz0 hz1 hz2 rfl (by decide) rfl (.tmp 41) (.tmp 45) rfl N (.slice sa m sc) m (sC l) rfl ?c5 _ 1 (sC [⟨u.val, NV, -1, NV⟩]) rfl (SR.lit _ _ #[.string u.val, .int .i64 1073741824, .int .i64 (-1)] 3 1 (by decide) rfl) ?c1 ?c2 ?c3 ?c4 ?_)
          case c5 => exact owns_below HG.out.2.2.1 HA7.out
          case c1 => exact sC_one _
          case c2 => unfold maxLen; omega
          case c3 => omega
          case c4 => exact Nat.le_trans HG.out.2.2.2.2.1 HA7.out.size
          intro v1 w8 hown1 hgr1
          have hw8 := (owns_below HG.out.2.2.2.1 HA7.out).kept hgr1 (rows_ne (owns_below HG.out.2.2.2.1 HA7.out) (owns_below HG.out.2.2.1 HA7.out) (by decide))
          have ha8 : Below w8.heap.size w8 (w8.alloc (.cells #[.int .i64 1073741824] 3)) := (Below.refl _ _).alloc (Nat.le_refl _) _
          have H8 := Lib.hid (And.intro hown1 (And.intro hgr1 (And.intro (owns_below hw8 ha8) (Nat.le_trans (Nat.le_trans HG.out.2.2.2.2.1 HA7.out.size) (Nat.le_trans hgr1.size ha8.size)))))
          clear hown1 hgr1 hw8 ha8
          go_wp2_with (at_builtin; refine wp_app Try.underlying59 hk hy0 hy1 hy2 rfl (by decide) rfl (.tmp 47) (.tmp 48) rfl N (.slice wa m wc') m (wC l) rfl ?d5 _ 1 (wC [⟨u.val, NV, -1, NV⟩]) rfl (SR.lit _ _ #[.int .i64 1073741824] 1 1 (by decide) rfl) ?d1 ?d2 ?d3 ?d4 ?_)
          case d5 => exact H8.out.2.2.1
          case d1 => exact wC_one _
          case d2 => unfold maxLen; omega
          case d3 => omega
          case d4 => exact H8.out.2.2.2
          intro v2 w9 hown2 hgr2
          have HF := Lib.hid (show SRel N b (j + 2) (withV l u.val) v1 v2 w w9 ∧ w9.heap[P]? = some (.cells #[.bool u.wr, .string u.val, .int .i64 u.from_, .int .i64 u.til] 72) from by
            have hm := HMM.out
            subst hm
            rw [HG.out.2.2.2.2.2.1]
            exact H6.out.1.app HG.out.1 HG.out.2.1 H8.out.1 H8.out.2.1 hown2 hgr2 H6.out.2.1)
          clear hown2 hgr2 e1 hup
          go_wp2_with fail
          go_meet
          exact ⟨by rw [HG.out.2.2.2.2.2.2.1], HF⟩
      case rest =>
        obtain ⟨rfl, HC⟩ := hcut
        clear e0 e1 e2 e3 hlk hci
        obtain ⟨i, hii⟩ : ∃ i, ixV l u.val = i := ⟨_, rfl⟩
        obtain ⟨l1, hl1⟩ : ∃ l1, withV l u.val = l1 := ⟨_, rfl⟩
        have hil := ix_lt l u.val
        rw [hii, hl1] at hil
        rw [hl1] at HC
        rw [hii]
        obtain ⟨x, hx⟩ : ∃ x, l1[i]? = some x := ⟨_, List.getElem?_eq_getElem hil⟩
        obtain ⟨m, hm⟩ : ∃ m, l1.length = m := ⟨_, rfl⟩
        have hs := HC.out.1.s
        have hw := HC.out.1.w
        rw [hm] at hil hs hw
        obtain ⟨gs, cs, rfl⟩ := rowAt hs (by omega)
        obtain ⟨gw, cw, rfl⟩ := rowAt hw (by omega)
        have hT := HC.out.1.turned HC.out.2
        have hii' : (i : Int) < (m : Int) := by omega
        have hmb : m ≤ 100000 := by have := hs.1; have := HC.out.1.s.1; rw [← hm, ← hl1]; unfold withV; split <;> simp <;> omega
        have c1 : wc.cell? ⟨gs, i * 3 + 1, none⟩ = some (.int .i64 x.e) := (hs.cellAt (i * 3 + 1) (by omega)).trans (sC_get hx 1 _ rfl)
        have c2' : wc.cell? ⟨gs, i * 3 + 2, none⟩ = some (.int .i64 x.b) := (hs.cellAt (i * 3 + 2) (by omega)).trans (sC_get hx 2 _ rfl)
        have fz : ∀ j, wc.frozen? ⟨gs, j, none⟩ = false := fun j => hs.frozenAt j
        have p0 := cell_atF HC.out.2 0 (v := .bool u.wr) rfl
        have p2 := cell_atF HC.out.2 2 (v := .int .i64 u.from_) rfl
        have p3 := cell_atF HC.out.2 3 (v := .int .i64 u.til) rfl
        have HT := Lib.hid hT
        have HX := Lib.hid (And.intro hx (And.intro hm (And.intro hii hl1)))
        clear hT hx hm hii hl1 hs hw
        go_upto_region 14 with fail
        go_region
        have hT14 := ((Turned.set (j := i * 3 + 1) (u := .int .i64 (min x.e u.til)) HX.out.2.1 HT.out).below (below_drew' (Below.refl _ _)))
        generalize (wc.setCell ⟨gs, i * 3 + 1, none⟩ (.int .i64 (min x.e u.til))).drew = w14 at *
        have HT14 := Lib.hid hT14
        have d2 : w14.cell? ⟨gs, i * 3 + 2, none⟩ = some (.int .i64 x.b) := by
          have := hT14.1
          rw [HX.out.2.1] at this
          refine (this.cellAt (i * 3 + 2) (by omega)).trans ?_
          rw [List.getElem?_set_ne (by omega)]
          exact sC_get HX.out.1 2 _ rfl
        have fz14 : ∀ j, w14.frozen? ⟨gs, j, none⟩ = false := fun j => by have := hT14.1; rw [HX.out.2.1] at this; exact this.frozenAt j
        have q0 := cell_atF hT14.2.2.2.2.2.2 0 (v := .bool u.wr) rfl
        have q2 := cell_atF hT14.2.2.2.2.2.2 2 (v := .int .i64 u.from_) rfl
        clear hT14 c1 c2' fz p0 p2 p3
        go_upto_region 15 with fail
        go_region
        have hT15 := ((Turned.set (j := i * 3 + 2) (u := .int .i64 (max x.b u.from_)) HX.out.2.1 HT14.out).below (below_drew' (Below.refl _ _)))
        generalize (w14.setCell ⟨gs, i * 3 + 2, none⟩ (.int .i64 (max x.b u.from_))).drew = w15 at *
        rw [← sC_modify l1 i x u HX.out.1] at hT15
        have q0 := cell_atF hT15.2.2.2.2.2.2 0 (v := .bool u.wr) rfl
        have q2 := cell_atF hT15.2.2.2.2.2.2 2 (v := .int .i64 u.from_) rfl
        have HT15 := Lib.hid hT15
        have r1 : w15.cell? ⟨gw, i, none⟩ = some (.int .i64 x.wr) := by
          have := hT15.2.1
          rw [HX.out.2.1] at this
          refine (this.cellAt i (by omega)).trans ?_
          unfold wC
          rw [List.getElem?_map, HX.out.1]; rfl
        have fz15 : ∀ j, w15.frozen? ⟨gw, j, none⟩ = false := fun j => by have := hT15.2.1; rw [HX.out.2.1] at this; exact this.frozenAt j
        clear hT15 d2 fz14
        obtain ⟨uw, huw⟩ : ∃ uw, u.wr = uw := ⟨_, rfl⟩
        rw [huw] at q0
        have HW := Lib.hid huw
        clear huw
        cases uw
        · have hst : spStep l u = some (l1.modify i (fun s => s.upd u)) := by
            unfold spStep
            rw [HW.out, HX.out.2.2.1, HX.out.2.2.2, Bool.false_and]; rfl
          have HF := Lib.hid (show spansL [⟨zeroL 32, -1, -1, -1⟩] (us.take (j + 1)) = some (l1.modify i (fun s => s.upd u)) ∧ SRel N b (j + 2) (l1.modify i (fun s => s.upd u)) (.slice (some ⟨gs, 0, none⟩) m cs) (.slice (some ⟨gw, 0, none⟩) m cw) w w15 from ⟨by rw [H6.out.2.2.1, hst], by
            have ht := HT15.out
            refine ⟨by rw [List.length_modify]; exact ht.1, ?_, ht.2.2.1.vals (vals_modify _ _ _).symm, ht.2.2.2.1, ht.2.2.2.2.1, ht.2.2.2.2.2.1⟩
            rw [List.length_modify, wC_modify l1 i x u HX.out.1, HW.out]
            have e : (wC l1).set i (.int .i64 (if false = true then u.from_ else x.wr)) = wC l1 := by
              refine List.ext_getElem? fun k => ?_
              rw [List.getElem?_set]
              split
              · rename_i hk
                subst hk
                split
                · unfold wC
                  rw [List.getElem?_map, HX.out.1]; rfl
                · rename_i h; rw [List.getElem?_eq_none (by omega)]
              · rfl
            rw [e]
            exact ht.2.1⟩)
          clear hst r1 fz15 q2
          go_wp2_with fail
          go_roundw
          case rel => exact ⟨j + 1, _, by omega, by go_num, Lib.hid HF.out.1, Lib.hid HF.out.2⟩
          case measure => simp [intOf]; omega
        · by_cases hwn : x.wr = NV
          · have hst : spStep l u = some (l1.modify i (fun s => s.upd u)) := by
              unfold spStep
              rw [HX.out.2.2.1, HX.out.2.2.2, show isW l1 i = false by unfold isW; rw [HX.out.1]; simp [hwn], Bool.and_false]; rfl
            have hwn' : (x.wr != 1073741824) = false := by rw [hwn]; rfl
            have ht := HT15.out
            have hws := ht.2.1
            rw [HX.out.2.1] at hws
            have hsto := hws.stored i (.int .i64 u.from_)
            have hF : spansL [⟨zeroL 32, -1, -1, -1⟩] (us.take (j + 1)) = some (l1.modify i (fun s => s.upd u)) ∧ SRel N b (j + 2) (l1.modify i (fun s => s.upd u)) (.slice (some ⟨gs, 0, none⟩) m cs) (.slice (some ⟨gw, 0, none⟩) m cw) w (w15.setCell ⟨gw, i, none⟩ (.int .i64 u.from_)) := by
              refine ⟨by rw [H6.out.2.2.1, hst], ?_⟩
              have hg := hws.lt gw rfl
              refine ⟨?_, ?_, (ht.2.2.1.move (hsto.2.block b ht.2.2.1.lt (fun e => row_map ht.2.1 ht.2.2.1 e.symm))).vals (vals_modify _ _ _).symm, ht.2.2.2.1, ht.2.2.2.2.1.setCell (by show N ≤ gw; exact hg.1) _, Nat.le_trans ht.2.2.2.2.2.1 hsto.2.size⟩
              · rw [List.length_modify]; exact ht.1.kept hsto.2 (rows_ne ht.1 ht.2.1 (by decide))
              · rw [List.length_modify, wC_modify l1 i x u HX.out.1, HW.out, if_pos rfl, HX.out.2.1]; exact hsto.1
            have HF := Lib.hid hF
            clear hst ht hws hsto hF hwn
            go_wp2_with fail
            go_roundw
            case rel => exact ⟨j + 1, _, by omega, by go_num, Lib.hid HF.out.1, Lib.hid HF.out.2⟩
            case measure => simp [intOf]; omega
          · have hwn' : (x.wr != 1073741824) = true := by simpa [NV] using hwn
            have hst : spStep l u = none := by
              unfold spStep
              rw [HW.out, HX.out.2.2.1, HX.out.2.2.2, show isW l1 i = true by unfold isW; rw [HX.out.1]; simp [hwn]]; rfl
            have hall : spansL [⟨zeroL 32, -1, -1, -1⟩] us = none := by
              rw [← List.take_append_drop (j + 1) us]
              exact spans_none _ _ _ (by rw [H6.out.2.2.1, hst])
            have HF := Lib.hid (And.intro hall (show Below w.heap.size w w15 by rw [HE.out.2.2.1]; exact HT15.out.2.2.2.2.1))
            clear hst hall hwn
            go_wp2_with fail
            go_returns
            unfold SpansP
            rw [HF.out.1]
            exact ⟨rfl, HF.out.2⟩
    · obtain rfl : j = n := by omega
      have hall : spansL [⟨zeroL 32, -1, -1, -1⟩] us = some l := by
        have := HL.out
        rwa [List.take_of_length_le (by rw [HE.out.2.2.2]; exact Nat.le_refl _)] at this
      have HF := Lib.hid hall
      clear hall
      go_wp2_with fail
      go_returns
      unfold SpansP
      rw [HF.out]
      have := HR.out
      rw [← HE.out.2.2.1] at this
      exact ⟨_, _, rfl, this.s, this.w, by have := this.low; exact this⟩
end Go.Proofs.Ytodjlaapmbnahaa
