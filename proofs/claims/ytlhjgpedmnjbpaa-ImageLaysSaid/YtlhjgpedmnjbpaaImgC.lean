/-
  A strings.Builder that a call has made itself, told with what stays: only its own block and its bytes turn. WriteString, WriteByte, Len, String.
-/
import Derived.Test.YtlhjgpedmnjbpaaImgB
import Derived.Test.YtlhjgpedmnjbpaaBuild
namespace Go.Proofs.Ytlhjgpedmnjbpaa
open Go.RowKit
set_option linter.unusedVariables false
set_option linter.unusedSimpArgs false

/-- what a change of the builder at b leaves -/
structure BKept (B b : Nat) (w w' : World) : Prop where
  below : Below B w w'
  keep : ∀ k c t fr, w.heap[k]? = some (.cells c t fr) → t ≠ 5 → k ≠ b → w'.heap[k]? = some (.cells c t fr)
theorem BKept.refl (B b : Nat) (w : World) : BKept B b w w := ⟨Below.refl _ _, fun _ _ _ _ h _ _ => h⟩
theorem BKept.trans {B b : Nat} {x y z : World} (h : BKept B b x y) (k : BKept B b y z) : BKept B b x z :=
  ⟨h.below.trans k.below, fun i c t fr hi ht hb => k.keep i c t fr (h.keep i c t fr hi ht hb) ht hb⟩
theorem BKept.of_below {B b : Nat} {x y : World} (h : Below x.heap.size x y) (hB : B ≤ x.heap.size) : BKept B b x y :=
  ⟨h.mono hB, fun i c t fr hi _ _ => below_at h (lt_heap hi) hi⟩
theorem BKept.of_only {B b : Nat} {x y : World} (h : Only b x y) (hb : B ≤ b) (hB : B ≤ x.heap.size) : BKept B b x y :=
  ⟨h.below hb hB, fun i c t fr hi _ hne => (h.block i (lt_heap hi) hne).trans hi⟩
theorem own_typeI {w : World} {base g : Nat} {e : TypeId} {size n : Nat} {v : Value} {xs : List Value} (h : w.ownsRow base e size v n xs) (hv : v.ownBlock = some g) : ∃ cur, w.heap[g]? = some (.cells cur e (0, 0)) := by
  rcases h.2 with ⟨rfl, _⟩ | ⟨g', cap, cur, rfl, _, hg, _⟩
  · simp [Value.ownBlock] at hv
  · simp [Value.ownBlock] at hv
    subst hv
    exact ⟨cur, hg⟩
theorem BKept.grown {B b : Nat} {w x y : World} {n : Nat} {v : Value} {xs : List Value} (h : BKept B b w x) (hown : x.ownsRow B 5 1 v n xs) (hg : x.grownBy y v.ownBlock) (hB : B ≤ x.heap.size) : BKept B b w y := by
  refine h.trans ⟨(Below.refl _ _).grown hg hB (fun k hk => (hown.lt k hk).1), fun k c t fr hk ht hb => ?_⟩
  refine (hg.block k (lt_heap hk) fun e => ?_).trans hk
  obtain ⟨cur, hc⟩ := own_typeI hown e.symm
  rw [hk] at hc
  cases hc
  exact ht rfl
theorem BKept.set {B b : Nat} {w x : World} (h : BKept B b w x) (hb : B ≤ b) (o : Nat) (u : Value) : BKept B b w (x.setCell ⟨b, o, none⟩ u) :=
  h.trans ⟨(Below.refl _ _).setCell (p := ⟨b, o, none⟩) hb u, fun k c t fr hk _ hne => by rw [Below.heap_setCell _ _ _ _ hne]; exact hk⟩
theorem bcheckO (B b : Nat) (p : Value) (bs : List Value) (w : World) (hp : p = .pointer none ∨ p = .pointer (some ⟨b, 0, none⟩)) (h : Lib.BuilderAt 175 5 B b p bs w) :
    Calls Try.prog 149 #[.pointer (some ⟨b, 0, none⟩)] w fun e w' => e = .returned (.tuple #[]) ∧ Lib.BuilderAt 175 5 B b (.pointer (some ⟨b, 0, none⟩)) bs w' ∧ Only b w w' := by
  obtain ⟨j, hj, hjs⟩ := Option.map_eq_some_iff.1 (show (Try.prog.info? 175).map (·.size) = some 2 by kernel_rfl)
  have H := Lib.hid h
  have h0 := h.cell0
  have hsh := h.shape
  have hfz := h.frozen0
  have hne : ∀ w : World, (binOp .neq 173 (.pointer (some ⟨b, 0, none⟩)) (.pointer (some ⟨b, 0, none⟩))).run Try.prog w = .ok (.bool false) w := fun w => Lib.run_neq_ptr_same w _ Try.underlying173 hj
  rcases hp with rfl | rfl
  · have c1 := Lib.run_to_unsafe (P := Try.prog) (src := 173) (dst := 226) w ⟨b, 0, none⟩ Try.underlying173 Try.underlying226 hj (by rw [hjs]; decide) hsh (Nat.zero_lt_succ 1)
    have c2 := Lib.run_from_unsafe (P := Try.prog) (src := 226) (dst := 173) w ⟨b, 0, none⟩ Try.underlying226 Try.underlying173 hj hsh (by kernel_rfl)
    have c3 : (callFunc 165 #[.pointer (some ⟨b, 0, none⟩)]).run Try.prog w = .ok (.value (.pointer (some ⟨b, 0, none⟩))) w := by
      rw [run_callFunc_extern Try.func165 (by kernel_rfl) (by kernel_rfl) (by kernel_rfl) (e := Extern.AbiNoEscape.same) (by kernel_rfl), Lib.run_noEscape]
      rfl
    clear h hsh
    go_enter Try.func149, Try.ntmps149
    go_wp2_with fail
    go_returns
    exact ⟨rfl, H.out.used _, (Only.refl b w).set _ _⟩
  · clear h hsh
    go_enter Try.func149, Try.ntmps149
    go_wp2_with fail
    go_returns
    exact ⟨rfl, H.out, Only.refl _ _⟩
theorem bcheckB (B b : Nat) (l : List UInt8) (w : World) (h : BT B b l w) : Calls Try.prog 149 #[.pointer (some ⟨b, 0, none⟩)] w fun e w' => e = .returned (.tuple #[]) ∧ Lib.BuilderAt 175 5 B b (.pointer (some ⟨b, 0, none⟩)) (bCells l) w' ∧ Only b w w' := by
  rcases h with h | h
  · exact bcheckO B b _ _ w (.inl rfl) h
  · exact bcheckO B b _ _ w (.inr rfl) h
theorem BT.le {B b : Nat} {l : List UInt8} {w : World} (h : BT B b l w) : B ≤ b := by
  rcases h with h | h
  all_goals exact h.1
theorem bwriteK (B b : Nat) (l : List UInt8) (s : ByteArray) (w : World) (h : BT B b l w) (hlen : l.length + s.size ≤ 140737488355328) (hBw : B ≤ w.heap.size) :
    Calls Try.prog 112 #[.pointer (some ⟨b, 0, none⟩), .string s] w fun e w' => e = .returned (.tuple #[.int .i64 s.size, .nilIface]) ∧ BT B b (l ++ s.data.toList) w' ∧ BKept B b w w' := by
  obtain ⟨i0, hi, hz0, hz1, hz2⟩ := info_parts (show (Try.prog.info? 5).map (fun i => (i.zero, i.size, i.bytes)) = some (some (.int .u8 0), 1, 1) by kernel_rfl)
  have c := bcheckB B b l w h
  have hl : (bCells l).length = l.length := bCells_length l
  have HL := Lib.hid hl
  clear h hl
  go_enter Try.func112, Try.ntmps112
  go_wp2_with fail
  refine Calls.mono c ?_
  rintro e w1 ⟨rfl, ⟨hB, v, hbk, hown, hne⟩, hb1⟩
  rw [HL.out] at hown
  have HBK := Lib.hid hbk
  have HNE := Lib.hid hne
  have HB1 := Lib.hid hb1
  have c1 : w1.cell? ⟨b, 1, none⟩ = some v := by rw [Lib.cell_of_heap hbk]; rfl
  clear hbk hne hb1 c
  go_wp2_with (at_builtin; refine Lib.wpList_append_own_string _ rfl _ _ 155 9 rfl B 5 i0 Try.underlying155 Try.underlying9 hi hz0 hz1 hz2 _ _ _ rfl hown s rfl ?c3 ?c4 ?c5 ?_)
  case c3 => unfold maxLen; omega
  case c4 => omega
  case c5 => have := HB1.out.size; omega
  intro v' w2 hown' hgrow _
  have hlt := lt_heap HBK.out
  have hb2 : w2.heap[b]? = some (.cells #[.pointer (some ⟨b, 0, none⟩), v] 175 (0, 0)) := (hgrow.block b hlt (fun e => HNE.out e.symm)).trans HBK.out
  have d1 : w2.cell? ⟨b, 1, none⟩ = some v := by rw [Lib.cell_of_heap hb2]; rfl
  have f1 : w2.frozen? ⟨b, 1, none⟩ = false := Lib.frozen_of_heap hb2 1
  obtain ⟨ao, n', cap, rfl⟩ : ∃ ao n' cap, v' = .slice ao n' cap := by
    rcases hown'.2 with ⟨hv, _⟩ | ⟨g, cap, cur, hv, _⟩
    · exact ⟨none, 0, 0, hv⟩
    · exact ⟨_, _, cap, hv⟩
  have HO := Lib.hid hown
  have HO2 := Lib.hid hown'
  have HB2 := Lib.hid hb2
  have HG := Lib.hid hgrow
  clear hown hown' hgrow hb2
  go_wp2_with fail
  go_returns
  have h2 := HO2.out
  refine ⟨rfl, .inr (Lib.BuilderAt.put hB HB2.out (bs' := bCells (l ++ s.data.toList)) ?_ (by decide)), ((BKept.of_only HB1.out hB hBw).grown HO.out HG.out (by have := HB1.out.size; omega)).set hB _ _⟩
  rw [bCells_length, List.length_append, ← bCells_append, ← bCells_str]
  exact h2
theorem bwbyteK (B b : Nat) (l : List UInt8) (c : UInt8) (w : World) (h : BT B b l w) (hlen : l.length + 1 ≤ 140737488355328) (hBw : B ≤ w.heap.size) :
    Calls Try.prog 115 #[.pointer (some ⟨b, 0, none⟩), .int .u8 c.toNat] w fun e w' => e = .returned .nilIface ∧ BT B b (l ++ [c]) w' ∧ BKept B b w w' := by
  obtain ⟨i0, hi, hz0, hz1, hz2⟩ := info_parts (show (Try.prog.info? 5).map (fun i => (i.zero, i.size, i.bytes)) = some (some (.int .u8 0), 1, 1) by kernel_rfl)
  have cc := bcheckB B b l w h
  have hl : (bCells l).length = l.length := bCells_length l
  have HL := Lib.hid hl
  clear h hl
  go_enter Try.func115, Try.ntmps115
  go_wp2_with fail
  refine Calls.mono cc ?_
  rintro e w1 ⟨rfl, ⟨hB, v, hbk, hown, hne⟩, hb1⟩
  rw [HL.out] at hown
  have HBK := Lib.hid hbk
  have HNE := Lib.hid hne
  have HB1 := Lib.hid hb1
  have c1 : w1.cell? ⟨b, 1, none⟩ = some v := by rw [Lib.cell_of_heap hbk]; rfl
  have hownA := owns_below hown ((Below.refl _ _).alloc (Nat.le_refl _) (.cells #[.int .u8 c.toNat] 5))
  clear hbk hne hb1 cc
  go_wp2_with (at_builtin; refine wp_app Try.underlying155 hi hz0 hz1 hz2 rfl (by decide) rfl _ _ rfl B v l.length (bCells l) rfl hownA (.slice (some ⟨w1.heap.size, 0, none⟩) 1 1) 1 [.int .u8 c.toNat] rfl (SR.lit w1 5 #[.int .u8 c.toNat] 1 1 (by unfold maxLen; omega) rfl) ?c2 ?c3 ?c4 ?c5 ?_)
  case c2 => intro u hu; simp at hu; subst hu; rfl
  case c3 => unfold maxLen; omega
  case c4 => omega
  case c5 => have := HB1.out.size; simp; omega
  intro v' w2 hown' hgrow
  have hlt := lt_heap HBK.out
  have hb2 : w2.heap[b]? = some (.cells #[.pointer (some ⟨b, 0, none⟩), v] 175 (0, 0)) := by
    rw [hgrow.block b (by simp; omega) (fun e => HNE.out e.symm), Below.heap_alloc _ _ _ hlt]
    exact HBK.out
  have d1 : w2.cell? ⟨b, 1, none⟩ = some v := by rw [Lib.cell_of_heap hb2]; rfl
  have f1 : w2.frozen? ⟨b, 1, none⟩ = false := Lib.frozen_of_heap hb2 1
  obtain ⟨ao, n', cap, rfl⟩ : ∃ ao n' cap, v' = .slice ao n' cap := by
    rcases hown'.2 with ⟨hv, _⟩ | ⟨g, cap, cur, hv, _⟩
    · exact ⟨none, 0, 0, hv⟩
    · exact ⟨_, _, cap, hv⟩
  have HO := Lib.hid hownA
  have HO2 := Lib.hid hown'
  have HB2 := Lib.hid hb2
  have HG := Lib.hid hgrow
  clear hown hown' hgrow hb2 hownA
  go_wp2_with fail
  go_returns
  have h2 := HO2.out
  refine ⟨rfl, .inr (Lib.BuilderAt.put hB HB2.out (bs' := bCells (l ++ [c])) ?_ (by decide)), (BKept.grown ((BKept.of_only HB1.out hB hBw).trans (BKept.of_below ((Below.refl _ _).alloc (Nat.le_refl _) _) (by have := HB1.out.size; omega))) HO.out HG.out (by have := HB1.out.size; simp; omega)).set hB _ _⟩
  rw [bCells_length, List.length_append, ← bCells_append]
  exact h2
theorem blenK (B b : Nat) (l : List UInt8) (w : World) (h : BT B b l w) : Calls Try.prog 118 #[.pointer (some ⟨b, 0, none⟩)] w fun e w' => e = .returned (.int .i64 l.length) ∧ w = w' := by
  refine (Try.Builder_Len B b (bCells l) w h).mono ?_
  rintro e w' ⟨rfl, hw⟩
  exact ⟨by rw [bCells_length], hw.symm⟩
end Go.Proofs.Ytlhjgpedmnjbpaa
