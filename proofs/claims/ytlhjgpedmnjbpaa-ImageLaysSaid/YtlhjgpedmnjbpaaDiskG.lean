/-
  disk.Wipe, New: a disk as it was ahead of all.
-/
import Derived.Test.YtlhjgpedmnjbpaaDiskB
import Derived.Laws.OwnMore
namespace Go.Proofs.Ytlhjgpedmnjbpaa
open Go.RowKit
set_option linter.unusedVariables false
set_option linter.unusedSimpArgs false

/-- a disk whose sectors may be any texts -/
structure DRaw (w : World) (N p : Nat) (sv lv : Value) (S : List ByteArray) : Prop where
  hp : N ≤ p
  obj : w.heap[p]? = some (.cells #[sv, lv] 187)
  sure : w.ownsRow N 9 1 sv S.length (sCells S)
theorem DRaw.lt {w : World} {N p : Nat} {sv lv : Value} {S : List ByteArray} (h : DRaw w N p sv lv S) : p < w.heap.size := lt_heap h.obj
theorem DRaw.le {w : World} {N p : Nat} {sv lv : Value} {S : List ByteArray} (h : DRaw w N p sv lv S) : N ≤ w.heap.size := Nat.le_trans h.hp (Nat.le_of_lt h.lt)
theorem DRaw.below {w w' : World} {N p : Nat} {sv lv : Value} {S : List ByteArray} (h : DRaw w N p sv lv S) (hb : Below w.heap.size w w') : DRaw w' N p sv lv S :=
  ⟨h.hp, (hb.block p h.lt).trans h.obj, owns_below h.sure hb⟩
theorem DRaw.cell0 {w : World} {N p : Nat} {sv lv : Value} {S : List ByteArray} (h : DRaw w N p sv lv S) : w.cell? ⟨p, 0, none⟩ = some sv := by simp [World.cell?, h.obj]
theorem DRaw.cell1 {w : World} {N p : Nat} {sv lv : Value} {S : List ByteArray} (h : DRaw w N p sv lv S) : w.cell? ⟨p, 1, none⟩ = some lv := by simp [World.cell?, h.obj]
theorem DRaw.frozen {w : World} {N p : Nat} {sv lv : Value} {S : List ByteArray} (h : DRaw w N p sv lv S) (o : Nat) : w.frozen? ⟨p, o, none⟩ = false := by simp [World.frozen?, h.obj]
theorem Dsk.raw {w : World} {N p : Nat} {sv lv : Value} {S : List ByteArray} {L : List (Nat × ByteArray)} (h : Dsk w N p sv lv S L) : DRaw w N p sv lv S := ⟨h.hp, h.obj, h.sure⟩
theorem DRaw.form {w : World} {N p : Nat} {sv lv : Value} {S : List ByteArray} (h : DRaw w N p sv lv S) (h0 : 0 < S.length) :
    ∃ g cap, sv = .slice (some ⟨g, 0, none⟩) S.length cap ∧ S.length ≤ cap ∧ cap ≤ maxLen := by
  obtain ⟨g, cap, rfl⟩ := Joins.ownsRow_form h.sure h0
  rcases h.sure.2 with ⟨h', _⟩ | ⟨g', cap', cur, h', _, hg, h1, h2, _⟩
  · simp at h'
  · simp only [Value.slice.injEq, Option.some.injEq, Addr.mk.injEq, and_true, true_and] at h'
    obtain ⟨rfl, rfl⟩ := h'
    exact ⟨g, cap, rfl, h1, h2⟩
theorem raw_set {w : World} {N p g n cap : Nat} {lv : Value} {S : List ByteArray} (h : DRaw w N p (.slice (some ⟨g, 0, none⟩) n cap) lv S) (k : Nat) (v : ByteArray) :
    DRaw (w.setCell ⟨g, k, none⟩ (.string v)) N p (.slice (some ⟨g, 0, none⟩) n cap) lv (S.set k v) ∧ DKept w (w.setCell ⟨g, k, none⟩ (.string v)) N p (.slice (some ⟨g, 0, none⟩) n cap) lv lv := by
  have hn : n = S.length := by
    rcases h.sure.2 with ⟨h', _⟩ | ⟨g', cap', cur, h', _⟩
    · simp at h'
    · injection h'
  subst hn
  obtain ⟨h1, h2⟩ := h.sure.stored k (.string v)
  have hpg : p ≠ g := fun e => row_other h.sure h.obj (by decide) (by rw [e]; rfl)
  refine ⟨⟨h.hp, (h2.block p h.lt (fun e => hpg (by cases e; rfl))).trans h.obj, ?_⟩, ?_, ?_, .inl rfl⟩
  · rw [sCells_set] at h1
    simpa using h1
  · exact (Below.refl N w).grown h2 h.le (fun j e => by cases e; exact (h.sure.lt g rfl).1)
  · intro j hj hp hs hl'
    exact h2.block j hj hs
/-- noughts in all sectors -/
def freshS (n : Nat) : List ByteArray := List.replicate n (zeroL 64)
theorem freshS_length (n : Nat) : (freshS n).length = n := by simp [freshS]
theorem fresh_of {S : List ByteArray} {n : Nat} (hl : S.length = n) (h : ∀ j, j < n → S[j]? = some (zeroL 64)) : S = freshS n := by
  apply List.ext_getElem?
  intro j
  by_cases hj : j < n
  · rw [h j hj]; simp [freshS, hj]
  · rw [List.getElem?_eq_none (by omega), List.getElem?_eq_none (by simp [freshS]; omega)]
/-- the disk as it was ahead of all -/
theorem raw_wiped {w : World} {N p : Nat} {sv lv : Value} {S : List ByteArray} (h : DRaw w N p sv lv S) (hm : S.length ≤ 4096) (hf : S = freshS S.length) :
    Dsk (w.setCell ⟨p, 1, none⟩ (.slice none 0 0)) N p sv (.slice none 0 0) (freshS S.length) [] ∧ DKept w (w.setCell ⟨p, 1, none⟩ (.slice none 0 0)) N p sv lv (.slice none 0 0) := by
  have hso := row_other h.sure h.obj (by decide)
  have hgp : w.grownBy (w.setCell ⟨p, 1, none⟩ (.slice none 0 0)) (some p) := ⟨rfl, rfl, rfl, by simp, fun k _ hk => heap_setCell_other _ _ _ _ (fun e => hk (by rw [e]))⟩
  rw [← hf]
  refine ⟨⟨h.hp, ?_, h.sure.kept hgp (.inr hso), World.ownsRow_nil _ _ _ _, ?_, by simp, hm⟩, ?_, ?_, .inr (fun k e => by cases e)⟩
  · rw [heap_setCell_same _ _ _ _ _ _ h.obj]
    rfl
  · intro s hs
    rw [hf] at hs
    rw [(List.mem_replicate.1 hs).2]
    exact zeroL_size 64
  · exact (Below.refl N w).setCell (p := ⟨p, 1, none⟩) h.hp _
  · intro k hk hp _ _
    exact heap_setCell_other _ _ _ _ hp
/-- what the loop of Wipe keeps -/
structure WRel (w wr : World) (N p k n : Nat) (sv lv : Value) (S : List ByteArray) : Prop where
  raw : DRaw wr N p sv lv S
  kept : DKept w wr N p sv lv lv
  len : S.length = n
  all : ∀ j, j < k → S[j]? = some (zeroL 64)
theorem WRel.step {w wr : World} {N p k n g c m : Nat} {lv : Value} {S : List ByteArray} (h : WRel w wr N p k n (.slice (some ⟨g, 0, none⟩) m c) lv S) (hk : k < n) :
    WRel w (wr.setCell ⟨g, k, none⟩ (.string (zeroL 64))) N p (k + 1) n (.slice (some ⟨g, 0, none⟩) m c) lv (S.set k (zeroL 64)) := by
  obtain ⟨a, b⟩ := raw_set h.raw k (zeroL 64)
  refine ⟨a, h.kept.trans b, by simpa using h.len, fun j hj => ?_⟩
  rw [List.getElem?_set]
  split
  · rw [if_pos (by have := h.len; omega)]
  · exact h.all j (by omega)

set_option maxHeartbeats 800000 in
theorem dwipe (w : World) (N p : Nat) (sv lv : Value) (S : List ByteArray) (h : DRaw w N p sv lv S) (hm : S.length ≤ 4096) :
    Calls Try.prog 121 #[.pointer (some ⟨p, 0, none⟩)] w fun e w' => e = .returned (.tuple #[]) ∧ Dsk w' N p sv (.slice none 0 0) (freshS S.length) [] ∧ DKept w w' N p sv lv (.slice none 0 0) := by
  have cn : ∀ w', Calls Try.prog 123 #[.int .i64 64] w' fun e w'' => e = .returned (.string (zeroL 64)) ∧ Below w'.heap.size w' w'' := fun w' => dnoughts 64 w' (by omega)
  have HD := Lib.hid h
  obtain ⟨n, hn⟩ : ∃ n, S.length = n := ⟨_, rfl⟩
  have hform : ∃ a cap, sv = .slice a n cap ∧ n ≤ cap ∧ cap ≤ maxLen := by
    rcases Nat.eq_zero_or_pos n with h0 | h0
    · rcases h.sure.2 with ⟨rfl, h'⟩ | ⟨g', cap', cur, rfl, _, hg, h1, h2, _⟩
      · exact ⟨none, 0, by rw [h0], by omega, by unfold maxLen; omega⟩
      · exact ⟨_, cap', by rw [hn], by omega, h2⟩
    · obtain ⟨g, cap, e, h1, h2⟩ := h.form (by omega)
      rw [hn] at e h1
      exact ⟨_, cap, e, h1, h2⟩
  obtain ⟨a, cap, rfl, hnc, hcm⟩ := hform
  unfold maxLen at hcm
  rw [hn] at hm
  rw [hn]
  have HN := Lib.hid hn
  clear h hn
  go_enter Try.func121, Try.ntmps121
  go_wp2_with fail
  refine Calls.mono (cn _) ?_
  rintro e w2 ⟨rfl, hb⟩
  have HW := Lib.hid (show WRel w w2 N p 0 n (.slice a n cap) lv S from ⟨HD.out.below hb, DKept.of_below HD.out.le hb, HN.out, fun j hj => by omega⟩)
  clear hb cn
  have hc0 := HW.out.raw.cell0
  go_wp2_with fail
  go_loopw [12] (fun i wr => ∃ (k : Nat) (S' : List ByteArray), k ≤ n ∧ i = .int .i64 k ∧ WRel w wr N p k n (.slice a n cap) lv S') (fun i _ => n - (intOf i).toNat)
  case atStart => exact ⟨0, S, Nat.zero_le _, rfl, HW.out⟩
  case round =>
    obtain ⟨k, S', hk, rfl, hrel⟩ := hrel
    have hr0 := hrel.raw.cell0
    have hr1 := hrel.raw.cell1
    have HR := Lib.hid hrel
    have hfr1 := hrel.raw.frozen 1
    clear hrel hc0
    by_cases hlt : k < n
    · obtain ⟨g, cap', he, _, _⟩ := HR.out.raw.form (by have := HR.out.len; omega)
      simp only [Value.slice.injEq] at he
      obtain ⟨rfl, _, rfl⟩ := he
      have hfz : wr.frozen? ⟨g, k, none⟩ = false := by
        have := HR.out.raw.sure
        have hl := HR.out.len
        rw [hl] at this
        exact this.frozenAt k
      have hc : ∃ v, wr.cell? ⟨g, k, none⟩ = some v := by
        have h1 := HR.out.raw.sure
        have hl := HR.out.len
        rw [hl] at h1
        refine ⟨_, (h1.cellAt k (by omega)).trans (sCells_at _ _ _ (List.getElem?_eq_getElem (by omega)))⟩
      obtain ⟨v, hv⟩ := hc
      go_wp2_with fail
      go_roundw
      case rel => exact ⟨k + 1, _, by omega, by go_num, HR.out.step hlt⟩
      case measure => simp [intOf]; omega
    · obtain rfl : k = n := by omega
      go_wp2_with fail
      go_returns
      have hl := HR.out.len
      have z := raw_wiped HR.out.raw (by omega) (fresh_of rfl (by rw [hl]; exact HR.out.all))
      rw [hl] at z
      exact ⟨rfl, z.1, HR.out.kept.trans z.2⟩

/-- a new disk -/
def DNew (n : Nat) (w : World) (e : Ending) (w' : World) : Prop := ∃ p sv, e = .returned (.tuple #[.pointer (some ⟨p, 0, none⟩), .int .i64 0]) ∧ Dsk w' w.heap.size p sv (.slice none 0 0) (freshS n) [] ∧ Below w.heap.size w w'
theorem mades_s (n : Nat) : (madeCells (Value.string ⟨#[]⟩).cells (n * 1)).toList = sCells (List.replicate n ⟨#[]⟩) := by
  rw [show (Value.string ⟨#[]⟩).cells = #[Value.string ⟨#[]⟩] from rfl, Nat.mul_one, toList_madeCells_one]
  simp [sCells]
set_option maxHeartbeats 800000 in
theorem dnew (n : Nat) (w : World) (h1 : 1 ≤ n) (h2 : n ≤ 4096) : Calls Try.prog 68 #[.int .i64 n] w (DNew n w) := by
  obtain ⟨i0, hi, hz0, hz1, hz2⟩ := info_parts (show (Try.prog.info? 9).map (fun i => (i.zero, i.size, i.bytes)) = some (some (.string ⟨#[]⟩), 1, 16) by kernel_rfl)
  obtain ⟨w1, hmk, hown, hgr⟩ := run_make_full (P := Try.prog) (w := w) w.heap.size 90 9 i0 _ 1 Try.underlying90 hi hz0 hz1 .i64 .i64 n (by rw [hz2]; omega) (by unfold maxLen; omega) (Nat.le_refl _)
  rw [mades_s] at hown
  have hb1 : Below w.heap.size w w1 := (Below.refl _ w).grown hgr (Nat.le_refl _) (fun k e => by cases e)
  have hraw : DRaw (w1.alloc (.cells #[.slice (some ⟨w.heap.size, 0, none⟩) n n, .slice none 0 0] 187)) w.heap.size w1.heap.size (.slice (some ⟨w.heap.size, 0, none⟩) n n) (.slice none 0 0) (List.replicate n ⟨#[]⟩) := by
    refine ⟨hb1.size, heap_alloc_self _ _, ?_⟩
    rw [List.length_replicate]
    exact hown.alloc _
  have c := dwipe _ _ _ _ _ _ hraw (by simpa using h2)
  rw [List.length_replicate] at c
  have HB := Lib.hid hb1
  clear hown hgr hb1 hraw
  have h1' : ¬ (n : Int) < 1 := by omega
  have h2' : ¬ 4096 < (n : Int) := by omega
  have HC := Lib.hid c
  clear c
  go_enter Try.func68, Try.ntmps68
  go_wp2_with fail
  refine Calls.mono HC.out ?_
  rintro e w2 ⟨rfl, hd, hk⟩
  have HD := Lib.hid hd
  have HK := Lib.hid hk
  clear hd hk
  go_wp2_with fail
  go_returns
  exact ⟨_, _, rfl, HD.out, (HB.out.trans ((Below.refl _ _).alloc HB.out.size _)).trans HK.out.below⟩
end Go.Proofs.Ytlhjgpedmnjbpaa
