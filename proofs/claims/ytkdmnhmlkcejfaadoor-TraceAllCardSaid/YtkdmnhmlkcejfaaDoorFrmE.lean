/-
  Frames behind one another: the pure chain; frame.All.
-/
import Derived.Test.YtkdmnhmlkcejfaaDoorFrmD
import Derived.Test.YtkdmnhmlkcejfaaDoorSR
namespace Go.Proofs.YtkdmnhmlkcejfaaDoor
open Go.RowKit
set_option linter.unusedVariables false
set_option linter.unusedSimpArgs false

def itF (s : List UInt8) : Nat → RS
  | 0 => ⟨s, 0⟩
  | k + 1 => (itF s k).frmS
def GoF (s : List UInt8) (k : Nat) : Prop := ∀ j, j < k → (itF s j).s ≠ [] ∧ (itF s (j + 1)).e = 0
def StF (s : List UInt8) (k : Nat) : Prop := (itF s k).s = [] ∨ (itF s (k + 1)).e ≠ 0
def gotF (s : List UInt8) (k : Nat) : List (List UInt8) := (List.range k).map fun j => (itF s j).frmB
def tCs (l : List (List UInt8)) : List Value := l.map fun t => .string ⟨t.toArray⟩
theorem tCs_length (l : List (List UInt8)) : (tCs l).length = l.length := by simp [tCs]
theorem tCs_append (a b : List (List UInt8)) : tCs (a ++ b) = tCs a ++ tCs b := by simp [tCs]
theorem tCs_one (l : List (List UInt8)) : ∀ y ∈ tCs l, y.oneCell' = true := by
  intro y hy
  simp only [tCs, List.mem_map] at hy
  obtain ⟨t, -, rfl⟩ := hy
  rfl
theorem gotF_next (s : List UInt8) (k : Nat) : gotF s (k + 1) = gotF s k ++ [(itF s k).frmB] := by simp [gotF, List.range_succ]
theorem gotF_len (s : List UInt8) (k : Nat) : (gotF s k).length = k := by simp [gotF]
theorem GoF.next {s : List UInt8} {k : Nat} (h : GoF s k) (h1 : (itF s k).s ≠ []) (h2 : (itF s (k + 1)).e = 0) : GoF s (k + 1) := fun j hj => by
  rcases Nat.lt_or_ge j k with q | q
  · exact h j q
  · obtain rfl : j = k := by omega
    exact ⟨h1, h2⟩
theorem go_same {s : List UInt8} {a b : Nat} (ha : GoF s a) (sa : StF s a) (hb : GoF s b) (sb : StF s b) : a = b := by
  have key : ∀ {a b : Nat}, StF s a → GoF s b → ¬ a < b := fun {a b} sa hb q => by
    obtain ⟨h1, h2⟩ := hb a q
    rcases sa with h | h
    · exact h1 h
    · exact h h2
  have h1 := key sa hb
  have h2 := key sb ha
  omega
theorem take_strict {r : RS} {n : Nat} (h : (r.takeS n).e = 0) : (r.takeS n).s.length + n = r.s.length ∧ r.e = 0 := by
  unfold RS.takeS at h ⊢
  by_cases he : r.e = 0
  · rw [if_neg (by simpa using he)] at h ⊢
    by_cases hb : (n : Int) < 0 ∨ (r.s.length : Int) < n
    · rw [if_pos hb] at h
      unfold RS.fail at h
      rw [if_pos ⟨he, by decide⟩] at h
      exact absurd h (by decide)
    · rw [if_neg hb]
      refine ⟨?_, he⟩
      simp
      omega
  · rw [if_pos he] at h
    exact absurd h he
theorem frmS_lt {r : RS} (h : r.frmS.e = 0) : r.frmS.s.length + 4 ≤ r.s.length := by
  unfold RS.frmS at h ⊢
  split at h
  · next hc =>
    unfold RS.fail at h
    rw [if_pos ⟨hc.1, by decide⟩] at h
    exact absurd h (by decide)
  · next hc =>
    rw [if_neg hc]
    unfold RS.frm2 at h ⊢
    have h1 := (take_strict (n := 4) h).1
    have h2 := textS_len r
    have h3 : (((r.textS 16384).takeS ((4 : Nat) : Int)).s.length) = ((r.textS 16384).takeS 4).s.length := rfl
    omega
theorem frmS_len (r : RS) : r.frmS.s.length ≤ r.s.length := by
  have h : r.frm2.s.length ≤ r.s.length := Nat.le_trans (takeS_len _ _) (textS_len r)
  unfold RS.frmS
  split
  · exact Nat.le_trans (fail_len _ _) h
  · exact h
theorem ROk.frm {r : RS} (h : ROk r) : ROk r.frmS := by
  have h2 : ROk r.frm2 := h.text.take 4
  unfold RS.frmS
  split
  · exact h2.fail 30
  · exact h2
theorem itF_len (s : List UInt8) (k : Nat) : (itF s k).s.length ≤ s.length := by
  induction k with
  | zero => exact Nat.le_refl _
  | succ k ih => exact Nat.le_trans (frmS_len _) ih
theorem itF_ok (s : List UInt8) (k : Nat) : ROk (itF s k) := by
  induction k with
  | zero => exact .inl rfl
  | succ k ih => exact ih.frm
theorem go_e0 {s : List UInt8} {k : Nat} (h : GoF s k) : (itF s k).e = 0 := by
  cases k with
  | zero => rfl
  | succ k => exact (h k (Nat.lt_succ_self k)).2
theorem go_len {s : List UInt8} : ∀ {k : Nat}, GoF s k → (itF s k).s.length + 4 * k ≤ s.length
  | 0, _ => by simp [itF]
  | k + 1, h => by
    have h1 := go_len (k := k) (fun j hj => h j (by omega))
    have h2 : (itF s k).frmS.s.length + 4 ≤ (itF s k).s.length := frmS_lt (h k (Nat.lt_succ_self k)).2
    show (itF s k).frmS.s.length + 4 * (k + 1) ≤ s.length
    omega
theorem owns_same3 {w w' : World} {base n size : Nat} {e : TypeId} {v : Value} {xs : List Value} (h : w.ownsRow base e size v n xs) (hk : ∀ k, v.ownBlock = some k → w'.heap[k]? = w.heap[k]?) : w'.ownsRow base e size v n xs := by
  refine ⟨h.1, ?_⟩
  rcases h.2 with hn | ⟨g, cap, cur, rfl, hb, hg, rest⟩
  · exact .inl hn
  · exact .inr ⟨g, cap, cur, rfl, hb, (hk g rfl).trans hg, rest⟩
theorem row_other3 {w : World} {B b : Nat} {e t : TypeId} {size n : Nat} {v : Value} {xs : List Value} {c : Array Value} {z : Nat × Nat} (h : w.ownsRow B e size v n xs) (hb : w.heap[b]? = some (.cells c t z)) (hte : t ≠ e) : ∀ k, v.ownBlock = some k → k ≠ b ∧ k < w.heap.size := by
  intro k e1
  rcases h.2 with ⟨rfl, -⟩ | ⟨g, cap, cur, rfl, hbg, hg, -⟩
  · cases e1
  · have e1 : some g = some k := e1
    injection e1 with e1
    subst e1
    refine ⟨fun e2 => ?_, lt_heap hg⟩
    rw [e2, hb] at hg
    injection hg with hg
    injection hg with _ hg
    exact hte hg
/-- the source, the row of what was got, and what else stays -/
structure AR (w wr : World) (b : Nat) (v : Value) (r : RS) (l : List (List UInt8)) : Prop where
  src : Src wr b r
  row : wr.ownsRow w.heap.size 9 1 v l.length (tCs l)
  below : Below w.heap.size w wr
theorem AR.take {w wr w' : World} {b : Nat} {v : Value} {r r' : RS} {l : List (List UInt8)} (h : AR w wr b v r l) (hb : w.heap.size ≤ b) (hs : Src w' b r') (ho : Only b wr w') : AR w w' b v r' l := by
  refine ⟨hs, owns_same3 h.row fun k e => ?_, h.below.trans (ho.below hb h.below.size)⟩
  obtain ⟨h1, h2⟩ := row_other3 h.row (show wr.heap[b]? = some (.cells _ 123 (0, 0)) from h.src) (by decide) k e
  exact ho.block k h2 h1
theorem AR.app {w wr w' : World} {b : Nat} {v v' : Value} {r : RS} {l : List (List UInt8)} {t : List UInt8} {o : Obj} (h : AR w wr b v r l) (hown : w'.ownsRow w.heap.size 9 1 v' (l.length + 1) (tCs l ++ tCs [t])) (hg : (wr.alloc o).grownBy w' v.ownBlock) : AR w w' b v' r (l ++ [t]) := by
  have hr := row_other3 h.row (show wr.heap[b]? = some (.cells _ 123 (0, 0)) from h.src) (by decide)
  refine ⟨?_, by rw [List.length_append, tCs_append]; exact hown, below_app (h.below.alloc h.below.size o) hg (h.row.alloc o) (Nat.le_refl _) (by simp; have := h.below.size; omega)⟩
  have h1 : (wr.alloc o).heap[b]? = wr.heap[b]? := Below.heap_alloc _ _ _ h.src.lt
  exact ((hg.block b (by have := h.src.lt; simp; omega) (fun e => (hr b e.symm).1 rfl)).trans h1).trans h.src
theorem info_str : ∃ i0 : TypeInfo, Tryd.prog.info? 9 = some i0 ∧ i0.zero = some (.string ⟨#[]⟩) ∧ i0.size = 1 ∧ i0.bytes = 16 := by
  have h : (Tryd.prog.info? 9).map (fun i => (i.zero, i.size, i.bytes)) = some (some (.string ⟨#[]⟩), 1, 16) := by kernel_rfl
  simp only [Option.map_eq_some_iff, Prod.mk.injEq] at h
  exact h
set_option maxHeartbeats 3200000 in
set_option maxRecDepth 100000 in
theorem fall (s : List UInt8) (w : World) (hl : s.length ≤ 100000) (hT : Tab w) :
    Calls Tryd.prog 42 #[.string ⟨s.toArray⟩] w fun e w' => ∃ k v, e = .returned (.tuple #[v, .int .i64 ((s.length : Int) - ((itF s k).s.length : Int))]) ∧ GoF s k ∧ StF s k ∧ SR w' v 1 k (tCs (gotF s k)) ∧ Below w.heap.size w w' := by
  obtain ⟨i0, hi, hz0, hz1, hz2⟩ := info_str
  have hy : Src (w.alloc (.cells #[.string ⟨s.toArray⟩, .int .i64 0] 123)) w.heap.size ⟨s, 0⟩ := heap_alloc_self w (.cells #[.string ⟨s.toArray⟩, .int .i64 0] 123)
  have hb0 := (Below.refl w.heap.size w).alloc (Nat.le_refl _) (.cells #[.string ⟨s.toArray⟩, .int .i64 0] 123)
  have hg : 2 ≠ w.heap.size := Nat.ne_of_lt (World.block_lt_of_cell? _ _ (hT 0 (by decide)))
  have HT := Lib.hid hT
  have H0 := Lib.hid (show AR w (w.alloc (.cells #[.string ⟨s.toArray⟩, .int .i64 0] 123)) w.heap.size (.slice none 0 0) (itF s 0) (gotF s 0) from ⟨hy, World.ownsRow_nil _ _ _ _, hb0⟩)
  clear hy hT hb0
  go_enter Tryd.func42, Tryd.ntmps42
  go_wp2_with fail
  refine Calls.mono (from_any _ w) ?_
  rintro e w1 ⟨rfl, rfl⟩
  obtain ⟨b, hb⟩ : ∃ b, w.heap.size = b := ⟨_, rfl⟩
  rw [hb] at H0 hg
  rw [hb]
  have hwb : w.heap.size ≤ b := by omega
  clear hb
  go_upto_block 0 with fail
  generalize w.alloc (.cells #[.string ⟨s.toArray⟩, .int .i64 0] 123) = W1 at *
  go_cut [5, 6] from 10 to 26 (fun v mv wx => ∃ k : Nat, mv = .int .i64 ((s.length : Int) - ((itF s k).s.length : Int)) ∧ Hid (GoF s k ∧ StF s k) ∧ Hid (SR wx v 1 k (tCs (gotF s k)) ∧ Below w.heap.size w wx))
  case first =>
    go_wp2_with fail
    go_loopw [5, 6] (fun v mv wr => ∃ k : Nat, mv = .int .i64 ((s.length : Int) - ((itF s k).s.length : Int)) ∧ Hid (GoF s k) ∧ Hid (AR w wr b v (itF s k) (gotF s k))) (fun _ mv _ => s.length - (intOf mv).toNat)
    case atStart => exact ⟨0, by simp [itF], Lib.hid (fun j hj => by omega), H0⟩
    case round =>
      obtain ⟨k, rfl, HG, HA⟩ := hrel
      have hkl := itF_len s k
      have c0 := HA.out.src.c0
      go_wp2_with fail
      refine Calls.mono (left_some b _ wr c0) ?_
      rintro e w2 ⟨rfl, rfl⟩
      have hgl := go_len HG.out
      have hgk := gotF_len s k
      by_cases hL : (itF s k).s = []
      · have hl0 : (itF s k).s.length = 0 := by rw [hL]; rfl
        have HF := Lib.hid (And.intro (show SR wr u5 1 k (tCs (gotF s k)) by have := SR.owns HA.out.row; rw [hgk] at this; exact this) HA.out.below)
        have HST := Lib.hid (show GoF s k ∧ StF s k from ⟨HG.out, .inl hL⟩)
        obtain ⟨R, hR⟩ : ∃ R, (itF s k).s.length = R := ⟨_, rfl⟩
        have HR := Lib.hid hR
        rw [hR] at hl0 ⊢
        clear hL c0 hR hgl hgk hkl
        subst hl0
        go_wp2_with fail
        go_meet
        exact ⟨k, by rw [HR.out]; rfl, HST, HF⟩
      · have hl0 : 0 < (itF s k).s.length := List.length_pos_iff.2 hL
        have ct := ftake b (itF s k) wr HA.out.src hg (HT.out.below HA.out.below)
        have HL := Lib.hid hL
        obtain ⟨R, hR⟩ : ∃ R, (itF s k).s.length = R := ⟨_, rfl⟩
        have HR := Lib.hid hR
        rw [hR] at hl0 hkl hgl ⊢
        clear hL c0 hR
        go_wp2_with fail
        refine Calls.mono ct ?_
        rintro e w3 ⟨rfl, hs3, ho3⟩
        have HA3 := Lib.hid (HA.out.take hwb (show Src w3 b (itF s (k + 1)) from hs3) ho3)
        have c1 := HA3.out.src.c1
        obtain ⟨E, hE⟩ : ∃ E, (itF s (k + 1)).e = E := ⟨_, rfl⟩
        rw [hE] at c1
        obtain ⟨T, hT2⟩ : ∃ T, (itF s k).frmB = T := ⟨_, rfl⟩
        rw [hT2]
        have HE := Lib.hid (And.intro hE hT2)
        clear hs3 ho3 ct hE hT2
        go_wp2_with fail
        refine Calls.mono (err_some b _ w3 c1) ?_
        rintro e w4 ⟨rfl, rfl⟩
        by_cases hE0 : E = 0
        · subst hE0
          have hgn := gotF_next s k
          rw [HE.out.2] at hgn
          go_wp2_with (at_builtin; refine wp_app Tryd.underlying87 hi hz0 hz1 hz2 rfl (by decide) rfl (.tmp 18) (.tmp 20) rfl w.heap.size _ _ _ rfl (HA3.out.row.alloc _) _ 1 (tCs [T]) rfl (SR.lit _ _ #[.string ⟨T.toArray⟩] 1 1 (by decide) rfl) ?c1 ?c2 ?c3 ?c4 ?_)
          case c1 => exact tCs_one _
          case c2 => rw [hgk]; unfold maxLen; omega
          case c3 => rw [hgk]; omega
          case c4 => have := HA3.out.below.size; simp; omega
          intro v' w5 hown hgr
          have HA5 := Lib.hid (HA3.out.app (t := T) (by rw [hgk]; exact hown) hgr)
          rw [← hgn] at HA5
          have c5 := HA5.out.src.c0
          have hkl2 := itF_len s (k + 1)
          have HGN := Lib.hid (HG.out.next HL.out HE.out.1)
          have hlt : (itF s k).frmS.s.length + 4 ≤ (itF s k).s.length := frmS_lt HE.out.1
          rw [HR.out] at hlt
          have hlt2 : (itF s (k + 1)).s.length + 4 ≤ R := hlt
          obtain ⟨R2, hR2⟩ : ∃ R2, (itF s (k + 1)).s.length = R2 := ⟨_, rfl⟩
          have cl := left_some b _ w5 c5
          rw [hR2] at cl hkl2 hlt2
          have HR2 := Lib.hid hR2
          have hw1 : IntKind.i64.wrap ((s.length : Int) - (R2 : Int)) = (s.length : Int) - (R2 : Int) := by rw [IntKind.wrap_i64]; omega
          clear hown hgr c1 c5 hR2 hlt hgn
          go_wp2_with fail
          refine Calls.mono cl ?_
          rintro e w6 ⟨rfl, rfl⟩
          go_wp2_with fail
          go_roundw
          case rel => exact ⟨k + 1, by rw [HR2.out], HGN, HA5⟩
          case measure =>
            have h1 := HR.out
            have h2 := HR2.out
            simp [intOf]
            omega
        · have hE1 : (E != 0) = true := by simpa using hE0
          have HF := Lib.hid (And.intro (show SR w3 u5 1 k (tCs (gotF s k)) by have := SR.owns HA3.out.row; rw [hgk] at this; exact this) HA3.out.below)
          have HST := Lib.hid (show GoF s k ∧ StF s k from ⟨HG.out, .inr (by rw [HE.out.1]; exact hE0)⟩)
          clear hE0 c1
          go_wp2_with fail
          go_meet
          exact ⟨k, by rw [HR.out], HST, HF⟩
  case rest =>
    obtain ⟨k, rfl, HG, HS⟩ := hcut
    go_wp2_with fail
    go_returns
    exact ⟨k, _, rfl, HG.out.1, HG.out.2, HS.out.1, HS.out.2⟩
end Go.Proofs.YtkdmnhmlkcejfaaDoor
