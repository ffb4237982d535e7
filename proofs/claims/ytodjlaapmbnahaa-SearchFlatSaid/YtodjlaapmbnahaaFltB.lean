/-
  flat: a volume in plain memory: New, Bytes.
-/
import Derived.Test.YtodjlaapmbnahaaFltA
namespace Go.Proofs.Ytodjlaapmbnahaa
open Go.RowKit
set_option linter.unusedVariables false
set_option linter.unusedSimpArgs false

/-- the volume at b, whose bytes lie in block g -/
def FlatAt (b g : Nat) (L : List ByteArray) (w : World) : Prop :=
  w.heap[b]? = some (.cells #[.slice (some ⟨g, 0, none⟩) (32 * L.length) (32 * L.length)] 96) ∧ w.heap[g]? = some (.cells (bCells (flatL L)).toArray 5) ∧ b ≠ g
theorem FlatAt.below {b g N : Nat} {L : List ByteArray} {w w' : World} (h : FlatAt b g L w) (hb : Below N w w') (h1 : b < N) (h2 : g < N) : FlatAt b g L w' :=
  ⟨below_at hb h1 h.1, below_at hb h2 h.2.1, h.2.2⟩
theorem FlatAt.lt {b g : Nat} {L : List ByteArray} {w : World} (h : FlatAt b g L w) : b < w.heap.size ∧ g < w.heap.size := ⟨lt_heap h.1, lt_heap h.2.1⟩
theorem flat_string {P : Program} {src dst e : TypeId} (hs : P.underlying src = some (.slice e)) (he : P.underlying e = some (.int .u8)) (hd : P.underlying dst = some .string) {w : World} {g : Nat} {l : List UInt8} {t : TypeId} (h : w.heap[g]? = some (.cells (bCells l).toArray t)) (o n c : Nat) (hn : o + n ≤ l.length) :
    (convert src dst (.slice (some ⟨g, o, none⟩) n c)).run P w = .ok (.string ⟨((l.drop o).take n).toArray⟩) w := by
  have hl : ((l.drop o).take n).length = n := by simp; omega
  have := run_convert_bytes_back w src dst e ⟨g, o, none⟩ c ((l.drop o).take n) hs he hd fun j hj => ?_
  · rw [hl] at this; exact this
  · have hj' : j < n := by rw [hl] at hj; exact hj
    have hadd : (⟨g, o, none⟩ : Addr).add j = ⟨g, o + j, none⟩ := by unfold Addr.add; split <;> simp_all
    rw [hadd]
    simp only [World.cell?, h]
    have : o + j < l.length := by omega
    simp [bCells, this]
def FNewP (n : Nat) (w : World) (e : Ending) (w' : World) : Prop := ∃ b g, e = .returned (.pointer (some ⟨b, 0, none⟩)) ∧ FlatAt b g (List.replicate n (zeroL 32)) w' ∧ w.heap.size ≤ b ∧ w.heap.size ≤ g ∧ Below w.heap.size w w'
set_option maxHeartbeats 800000 in
set_option maxRecDepth 100000 in
theorem fnew (n : Nat) (w : World) (h1 : 1 ≤ n) (h2 : n ≤ 64) : Calls Try.prog 22 #[.int .i64 n] w (FNewP n w) := by
  obtain ⟨i0, hi, hz0, hz1, hz2⟩ := info_parts (show (Try.prog.info? 5).map (fun i => (i.zero, i.size, i.bytes)) = some (some (.int .u8 0), 1, 1) by kernel_rfl)
  obtain ⟨m, hm⟩ : ∃ m, 32 * n = m := ⟨_, rfl⟩
  obtain ⟨w1, hmk, hown, hgr⟩ := run_make_full (P := Try.prog) (w := w) w.heap.size 68 5 i0 _ 1 Try.underlying68 hi hz0 hz1 .i64 .i64 m (by rw [hz2]; omega) (by unfold maxLen; omega) (Nat.le_refl _)
  have hb1 : Below w.heap.size w w1 := (Below.refl _ w).grown hgr (Nat.le_refl _) (fun k e => by cases e)
  have hg1 : w1.heap[w.heap.size]? = some (.cells (bCells (flatL (List.replicate n (zeroL 32)))).toArray 5) := by
    rcases hown.2 with ⟨e, -⟩ | ⟨g, cap, cur, e, _, hc, _, _, hs, ht⟩
    · cases e
    · simp only [Value.slice.injEq, Option.some.injEq, Addr.mk.injEq, and_true, true_and] at e
      obtain ⟨e1, e3⟩ := e
      subst e1 e3
      rw [hc]
      congr 2
      rw [← Array.toList_inj]
      rw [List.take_of_length_le (by simp [hs])] at ht
      rw [ht, show (Value.int .u8 0).cells = #[Value.int .u8 0] from rfl, Nat.mul_one, toList_madeCells_one]
      have hf : flatL (List.replicate n (zeroL 32)) = List.replicate m 0 := by
        rw [List.eq_replicate_iff]
        refine ⟨?_, ?_⟩
        · rw [flatL_len (fun s hs => by rw [List.eq_of_mem_replicate hs, zeroL_size]), List.length_replicate]; exact hm
        · intro c hc
          simp only [flatL, List.mem_flatMap] at hc
          obtain ⟨s, hs, hc⟩ := hc
          rw [List.eq_of_mem_replicate hs] at hc
          have : c ∈ List.replicate 32 (0 : UInt8) := by simpa [zeroL] using hc
          exact List.eq_of_mem_replicate this
      rw [hf]
      simp [bCells]
  have hlt := lt_heap hg1
  have hx := heap_alloc_self w1 (.cells #[.slice (some ⟨w.heap.size, 0, none⟩) m m] 96)
  have hF : FlatAt w1.heap.size w.heap.size (List.replicate n (zeroL 32)) (w1.alloc (.cells #[.slice (some ⟨w.heap.size, 0, none⟩) m m] 96)) := by
    refine ⟨?_, below_at ((Below.refl _ w1).alloc (Nat.le_refl _) _) hlt hg1, by omega⟩
    rw [List.length_replicate, hm]; exact hx
  have HF := Lib.hid hF
  have HB := Lib.hid (And.intro hb1 (hb1.trans ((Below.refl _ _).alloc hb1.size (.cells #[.slice (some ⟨w.heap.size, 0, none⟩) m m] 96))))
  clear hown hgr hb1 hg1 hx hF hi hz0 hz1 hz2
  have h1' : ¬ (n : Int) < 1 := by omega
  have h2' : ¬ 64 < (n : Int) := by omega
  have hmm : (n : Int) * 32 = (m : Int) := by omega
  clear hm
  go_enter Try.func22, Try.ntmps22
  go_wp2_with fail
  go_returns
  exact ⟨_, _, rfl, HF.out, HB.out.1.size, Nat.le_refl _, HB.out.2⟩
/-- no such volume: it has no bytes -/
def FlatNo (b : Nat) (w : World) : Prop := ∃ a, w.heap[b]? = some (.cells #[.slice a 0 0] 96)
set_option maxHeartbeats 800000 in
set_option maxRecDepth 100000 in
theorem fnew_no (n : Int) (w : World) (h : n < 1 ∨ 64 < n) : Calls Try.prog 22 #[.int .i64 n] w fun e w' => ∃ b, e = .returned (.pointer (some ⟨b, 0, none⟩)) ∧ FlatNo b w' ∧ Below w.heap.size w w' := by
  obtain ⟨i0, hi, hz0, hz1, hz2⟩ := info_parts (show (Try.prog.info? 5).map (fun i => (i.zero, i.size, i.bytes)) = some (some (.int .u8 0), 1, 1) by kernel_rfl)
  obtain ⟨w1, hmk, hown, hgr⟩ := run_make_full (P := Try.prog) (w := w) w.heap.size 68 5 i0 _ 1 Try.underlying68 hi hz0 hz1 .i64 .i64 0 (by rw [hz2]; omega) (by unfold maxLen; omega) (Nat.le_refl _)
  rw [show ((0 : Nat) : Int) = 0 from rfl] at hmk
  have hb1 : Below w.heap.size w w1 := (Below.refl _ w).grown hgr (Nat.le_refl _) (fun k e => by cases e)
  have hx := heap_alloc_self w1 (.cells #[.slice (some ⟨w.heap.size, 0, none⟩) 0 0] 96)
  have HX := Lib.hid hx
  have HB := Lib.hid (hb1.trans ((Below.refl _ _).alloc hb1.size (.cells #[.slice (some ⟨w.heap.size, 0, none⟩) 0 0] 96)))
  clear hown hgr hb1 hx hi hz0 hz1 hz2
  by_cases h1 : n < 1
  · have hd : decide (n < 1) = true := by simpa using h1
    clear h
    go_enter Try.func22, Try.ntmps22
    go_wp2_with fail
    go_returns
    exact ⟨_, rfl, ⟨_, HX.out⟩, HB.out⟩
  · have h2 : 64 < n := h.resolve_left h1
    have hd : decide (n < 1) = false := by simpa using h1
    have hd2 : decide (64 < n) = true := by simpa using h2
    clear h
    go_enter Try.func22, Try.ntmps22
    go_wp2_with fail
    go_returns
    exact ⟨_, rfl, ⟨_, HX.out⟩, HB.out⟩
set_option maxRecDepth 100000 in
theorem fbytes (b g : Nat) (L : List ByteArray) (w : World) (hL : Blks L) (h : FlatAt b g L w) : Calls Try.prog 31 #[.pointer (some ⟨b, 0, none⟩)] w fun e w' => e = .returned (.string ⟨(flatL L).toArray⟩) ∧ w = w' := by
  have hl := flatL_len hL
  have hcv := flat_string Try.underlying68 Try.underlying5 Try.underlying9 h.2.1 0 (32 * L.length) (32 * L.length) (by omega)
  rw [List.drop_zero, List.take_of_length_le (by omega)] at hcv
  obtain ⟨m, hm⟩ : ∃ m, 32 * L.length = m := ⟨_, rfl⟩
  have k0 : w.cell? ⟨b, 0, none⟩ = some (.slice (some ⟨g, 0, none⟩) (32 * L.length) (32 * L.length)) := by simp [World.cell?, h.1]
  rw [hm] at hcv k0
  clear h hm hl hL
  go_enter Try.func31, Try.ntmps31
  go_wp2_with fail
  go_ret
  exact ⟨rfl, rfl⟩
set_option maxRecDepth 100000 in
theorem fbytes_no (b : Nat) (w : World) (h : FlatNo b w) : Calls Try.prog 31 #[.pointer (some ⟨b, 0, none⟩)] w fun e w' => e = .returned (.string ⟨#[]⟩) ∧ w = w' := by
  obtain ⟨a, h⟩ := h
  have hcv : (convert 68 9 (.slice a 0 0)).run Try.prog w = .ok (.string ⟨#[]⟩) w := by
    cases a with
    | none => exact run_convert_bytes_nil w 68 5 Try.underlying68 Try.underlying5 0 0 9 Try.underlying9
    | some x => exact run_convert_bytes_back w 68 9 5 x 0 [] Try.underlying68 Try.underlying5 Try.underlying9 fun j hj => by simp at hj
  have k0 : w.cell? ⟨b, 0, none⟩ = some (.slice a 0 0) := by simp [World.cell?, h]
  clear h
  go_enter Try.func31, Try.ntmps31
  go_wp2_with fail
  go_ret
  exact ⟨rfl, rfl⟩
end Go.Proofs.Ytodjlaapmbnahaa
