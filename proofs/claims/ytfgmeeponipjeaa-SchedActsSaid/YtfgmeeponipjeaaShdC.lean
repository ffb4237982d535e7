/-
  sched: letters, lists of nodes, what a client asks.
-/
import Derived.Test.YtfgmeeponipjeaaShd
namespace Go.Proofs.Ytfgmeeponipjeaa
open Go.RowKit
set_option linter.unusedVariables false
set_option linter.unusedSimpArgs false

def stN (s : Int) : Nat → Int
  | 0 => s
  | k + 1 => nx (stN s k)
def letC (s : Int) (i : Nat) : UInt8 := UInt8.ofNat (97 + bl (stN s i) 26).toNat
def letL (s : Int) (j : Nat) : List UInt8 := (List.range j).map (letC s) ++ List.replicate (32 - j) 0
def letF (s : Int) : ByteArray := ⟨(letL s 32).toArray⟩
theorem letL_len (s : Int) (j : Nat) (hj : j ≤ 32) : (letL s j).length = 32 := by simp [letL]; omega
theorem letL_set (s : Int) (j : Nat) (hj : j < 32) : (letL s j).set j (letC s j) = letL s (j + 1) := by
  unfold letL
  apply List.ext_getElem?
  intro i
  rw [List.getElem?_set]
  by_cases h : j = i
  · subst h
    rw [if_pos rfl, if_pos (by simp; omega), List.getElem?_append_left (by simp)]
    simp
  · rw [if_neg h]
    by_cases h2 : i < j
    · rw [List.getElem?_append_left (by simp; omega), List.getElem?_append_left (by simp; omega)]
      simp [h2, show i < j + 1 by omega]
    · rw [List.getElem?_append_right (by simp; omega), List.getElem?_append_right (by simp; omega), List.getElem?_replicate, List.getElem?_replicate]
      simp only [List.length_map, List.length_range]
      by_cases h3 : i < 32
      · rw [if_pos (by omega), if_pos (by omega)]
      · rw [if_neg (by omega), if_neg (by omega)]
theorem bCells_setS (l : List UInt8) (i : Nat) (c : UInt8) : (bCells l).toArray.setIfInBounds i (.int .u8 c.toNat) = (bCells (l.set i c)).toArray := by
  simp [bCells, List.map_set]
theorem letC_nat (s : Int) (i : Nat) : ((letC s i).toNat : Int) = 97 + bl (stN s i) 26 := by
  obtain ⟨h1, h2⟩ := bl_range (stN s i) (show (1 : Int) ≤ 26 by decide)
  unfold letC
  simp
  omega
theorem conv_blockS {P : Program} {src dst e : TypeId} (hs : P.underlying src = some (.slice e)) (he : P.underlying e = some (.int .u8)) (hd : P.underlying dst = some .string) {w : World} {g n : Nat} {l : List UInt8} {t : TypeId} {fr : Nat × Nat} (c : Nat) (hn : n = l.length)
    (h : w.heap[g]? = some (.cells (bCells l).toArray t fr)) : (convert src dst (.slice (some ⟨g, 0, none⟩) n c)).run P w = .ok (.string ⟨l.toArray⟩) w := by
  subst hn
  refine run_convert_bytes_back w src dst e ⟨g, 0, none⟩ c l hs he hd fun j hj => ?_
  have e1 : (⟨g, 0, none⟩ : Addr).add j = ⟨g, j, none⟩ := by unfold Addr.add; split <;> simp_all
  rw [e1]
  simp [World.cell?, h, bCells, hj]
theorem only_new {g b : Nat} {w w2 : World} (o : Only g w w2) (hb : w.heap.size ≤ b) (j : Nat) (v : Value) : Only g w (w2.setCell ⟨b, j, none⟩ v) :=
  ⟨o.os, o.tape, o.output, by simpa [World.setCell] using o.size, fun k hk hne => (Below.heap_setCell _ _ _ _ (show k ≠ b by omega)).trans (o.block k hk hne)⟩
/-- how it stands while letters are drawn -/
structure LetR (g : Nat) (s : Int) (w wr : World) (b j : Nat) : Prop where
  obj : wr.heap[b]? = some (.cells (bCells (letL s j)).toArray 135)
  sb : SB wr g (stN s j)
  only : Only g w wr
  ne : b ≠ g
  ge : w.heap.size ≤ b
set_option maxHeartbeats 3200000 in
set_option maxRecDepth 100000 in
theorem sletters (g : Nat) (s : Int) (w : World) (h : SB w g s) : Calls Try.prog 63 #[.pointer (some ⟨g, 0, none⟩)] w fun e w' => e = .returned (.string (letF s)) ∧ SB w' g (stN s 32) ∧ Only g w w' := by
  have hx := heap_alloc_self w (.cells (bCells (letL s 0)).toArray 135)
  have hb0 := (Below.refl w.heap.size w).alloc (Nat.le_refl _) (.cells (bCells (letL s 0)).toArray 135)
  have H0 := Lib.hid (show LetR g s w (w.alloc (.cells (bCells (letL s 0)).toArray 135)) w.heap.size 0 from ⟨hx, h.below hb0, Only.of_below hb0, by have := lt_heap h; omega, Nat.le_refl _⟩)
  have e0 : (bCells (letL s 0)).toArray = #[.int .u8 0, .int .u8 0, .int .u8 0, .int .u8 0, .int .u8 0, .int .u8 0, .int .u8 0, .int .u8 0, .int .u8 0, .int .u8 0, .int .u8 0, .int .u8 0, .int .u8 0, .int .u8 0, .int .u8 0, .int .u8 0, .int .u8 0, .int .u8 0, .int .u8 0, .int .u8 0, .int .u8 0, .int .u8 0, .int .u8 0, .int .u8 0, .int .u8 0, .int .u8 0, .int .u8 0, .int .u8 0, .int .u8 0, .int .u8 0, .int .u8 0, .int .u8 0] := rfl
  rw [e0] at H0
  clear hx hb0 e0 h
  go_enter Try.func63, Try.ntmps63
  go_upto_region 2 with fail
  generalize w.alloc (.cells #[.int .u8 0, .int .u8 0, .int .u8 0, .int .u8 0, .int .u8 0, .int .u8 0, .int .u8 0, .int .u8 0, .int .u8 0, .int .u8 0, .int .u8 0, .int .u8 0, .int .u8 0, .int .u8 0, .int .u8 0, .int .u8 0, .int .u8 0, .int .u8 0, .int .u8 0, .int .u8 0, .int .u8 0, .int .u8 0, .int .u8 0, .int .u8 0, .int .u8 0, .int .u8 0, .int .u8 0, .int .u8 0, .int .u8 0, .int .u8 0, .int .u8 0, .int .u8 0] 135) = w1 at *
  obtain ⟨b, hb⟩ : ∃ b, w.heap.size = b := ⟨_, rfl⟩
  rw [hb] at H0 ⊢
  clear hb
  go_wp2_with fail
  go_loopw [5] (fun iv wr => ∃ j : Nat, j ≤ 32 ∧ iv = .int .i64 j ∧ Hid (LetR g s w wr b j)) (fun iv _ => 32 - (intOf iv).toNat)
  case atStart => exact ⟨0, by omega, rfl, H0⟩
  case round =>
    obtain ⟨j, hj, rfl, HL⟩ := hrel
    clear H0
    by_cases hlt : j < 32
    · have c := sbelow g (stN s j) 26 wr HL.out.sb (by decide) (by decide)
      obtain ⟨b1, b2⟩ := bl_range (stN s j) (show (1 : Int) ≤ 26 by decide)
      obtain ⟨B, hB⟩ : ∃ B, bl (stN s j) 26 = B := ⟨_, rfl⟩
      rw [hB] at c b1 b2
      have HB := Lib.hid hB
      have hj32 : (j : Int) < 32 := by omega
      clear hB
      go_wp2_with fail
      refine Calls.mono c ?_
      rintro e w2 ⟨rfl, hw2⟩
      obtain ⟨hs2, ho2⟩ := HL.out.sb.bl hw2
      have hob := (ho2.block b (lt_heap HL.out.obj) HL.out.ne).trans HL.out.obj
      have hcb : w2.cell? ⟨b, j, none⟩ = some (.int .u8 ((letL s j).getD j 0).toNat) := by
        have := letL_len s j hj
        simp [World.cell?, hob, bCells, List.getD, this, hlt]
      have hfb : w2.frozen? ⟨b, j, none⟩ = false := by simp [World.frozen?, hob]
      have hval : ((letC s j).toNat : Int) = 97 + B := by rw [letC_nat, HB.out]
      have HN := Lib.hid (show LetR g s w (w2.setCell ⟨b, j, none⟩ (.int .u8 (97 + B))) b (j + 1) from ⟨by
        have h1 := heap_set_self hob j (.int .u8 (97 + B))
        rw [← hval, bCells_setS, letL_set s j hlt] at h1
        rw [← hval]
        exact h1, (Below.heap_setCell _ _ _ _ (Ne.symm HL.out.ne)).trans hs2, only_new (HL.out.only.trans ho2) HL.out.ge j _, HL.out.ne, HL.out.ge⟩)
      clear c hw2 hs2 ho2 hob hval
      go_wp2_with fail
      go_roundw
      case rel => exact ⟨j + 1, by omega, by go_num, HN⟩
      case measure => simp [intOf]; omega
    · obtain rfl : j = 32 := by omega
      have hcv := conv_blockS (P := Try.prog) (src := 136) (dst := 9) Try.underlying136 Try.underlying5 Try.underlying9 32 (letL_len s 32 (by omega)).symm HL.out.obj
      go_wp2_with fail
      go_ret
      exact ⟨rfl, HL.out.sb, HL.out.only⟩
/-- nodes behind one another -/
def nodeL (f : Int) (k : Nat) : List Int := (List.range k).map fun (i : Nat) => (f + (i : Int)).tmod 5
theorem nodeL_succ (f : Int) (k : Nat) : nodeL f (k + 1) = nodeL f k ++ [(f + k).tmod 5] := by simp [nodeL, List.range_succ]
theorem nodeL_len (f : Int) (k : Nat) : (nodeL f k).length = k := by simp [nodeL]
theorem info_intS : ∃ i0 : TypeInfo, Try.prog.info? 3 = some i0 ∧ i0.zero = some (.int .i64 0) ∧ i0.size = 1 ∧ i0.bytes = 8 := by
  have h : (Try.prog.info? 3).map (fun i => (i.zero, i.size, i.bytes)) = some (some (.int .i64 0), 1, 8) := by kernel_rfl
  simp only [Option.map_eq_some_iff, Prod.mk.injEq] at h
  exact h
/-- the list that is drawn -/
def listF (s m : Int) : List Int := nodeL (bl s 5) (m + bl (nx s) (4 - m)).toNat
set_option maxHeartbeats 3200000 in
set_option maxRecDepth 100000 in
theorem slist (g : Nat) (s m : Int) (w : World) (h : SB w g s) (hm0 : 0 ≤ m) (hm1 : m ≤ 1) : Calls Try.prog 61 #[.pointer (some ⟨g, 0, none⟩), .int .i64 m] w fun e w' => ∃ v, e = .returned v ∧ w'.ownsRow w.heap.size 3 1 v (listF s m).length (nCells (listF s m)) ∧ SB w' g (nx (nx s)) ∧ Only g w w' := by
  obtain ⟨i0, hi0, hz0, hz1, hz2⟩ := info_intS
  have c := sbelow g s 5 w h (by decide) (by decide)
  have c2 := fun w1 h1 => sbelow g (nx s) (4 - m) w1 h1 (by omega) (by omega)
  obtain ⟨b1, b2⟩ := bl_range s (show (1 : Int) ≤ 5 by decide)
  obtain ⟨d1, d2⟩ := bl_range (nx s) (show (1 : Int) ≤ 4 - m by omega)
  obtain ⟨f, hf⟩ : ∃ f, bl s 5 = f := ⟨_, rfl⟩
  obtain ⟨q, hq⟩ : ∃ q, bl (nx s) (4 - m) = q := ⟨_, rfl⟩
  obtain ⟨n, hn⟩ : ∃ n : Nat, m + q = (n : Int) := ⟨(m + q).toNat, by omega⟩
  have hlist : listF s m = nodeL f n := by unfold listF; rw [hf, hq, hn]; rfl
  rw [hlist, nodeL_len]
  rw [hf] at c b1 b2
  rw [hq] at c2 d1 d2
  have hn7 : n ≤ 4 := by omega
  have hw4 : IntKind.i64.wrap (4 - m) = 4 - m := by rw [IntKind.wrap_i64]; omega
  have hwn : IntKind.i64.wrap (m + q) = (n : Int) := by rw [IntKind.wrap_i64]; omega
  have HS := Lib.hid h
  have HMM := Lib.hid (And.intro hm0 hm1)
  clear hlist hf hq hn h d1 d2 hm0 hm1
  go_enter Try.func61, Try.ntmps61
  go_wp2_with fail
  refine Calls.mono c ?_
  rintro e w1 ⟨rfl, hw1⟩
  obtain ⟨hs1, ho1⟩ := HS.out.bl hw1
  have c2' := c2 w1 hs1
  have H1 := Lib.hid (And.intro hs1 ho1)
  clear c c2 hw1 hs1 ho1
  go_wp2_with fail
  refine Calls.mono c2' ?_
  rintro e w2 ⟨rfl, hw2⟩
  obtain ⟨hs2, ho2⟩ := H1.out.1.bl hw2
  have H2 := Lib.hid (show w2.ownsRow w.heap.size 3 1 (.slice none 0 0) 0 (nCells (nodeL f 0)) ∧ SB w2 g (nx (nx s)) ∧ Only g w w2 from ⟨(by have := World.ownsRow_nil w2 w.heap.size 3 1; exact this), hs2, H1.out.2.trans ho2⟩)
  clear c2' hw2 hs2 ho2
  go_wp2_with fail
  go_loopw [7, 18] (fun sv iv wr => ∃ (j : Nat) (b : Option Addr) (c : Nat), j ≤ n ∧ sv = .slice b j c ∧ iv = .int .i64 j ∧ Hid (wr.ownsRow w.heap.size 3 1 (.slice b j c) j (nCells (nodeL f j)) ∧ SB wr g (nx (nx s)) ∧ Only g w wr)) (fun _ iv _ => n - (intOf iv).toNat)
  case atStart => exact ⟨0, _, _, Nat.zero_le _, rfl, rfl, H2⟩
  case round =>
    obtain ⟨j, b, c, hj, rfl, rfl, HR⟩ := hrel
    clear H2
    by_cases hlt : j < n
    · have hjn : (j : Int) < n := by omega
      have hwf : IntKind.i64.wrap (f + j) = f + j := by rw [IntKind.wrap_i64]; omega
      obtain ⟨z, hz⟩ : ∃ z, (f + (j : Int)).tmod 5 = z := ⟨_, rfl⟩
      have hz' : (f + (j : Int)) % 5 = z := by rw [← hz, Int.tmod_eq_emod_of_nonneg (by omega)]
      have HZ := Lib.hid hz
      have hsz := HR.out.2.2.size
      go_wp2_with (at_builtin; refine wp_app Try.underlying23 hi0 hz0 hz1 hz2 rfl (by decide) rfl (.tmp 21) (.tmp 26) rfl w.heap.size _ _ _ rfl (HR.out.1.alloc _) _ 1 (nCells [z]) rfl (SR.lit _ _ #[.int .i64 z] 1 1 (by decide) rfl) ?c1 ?c2 ?c3 ?c4 ?_)
      case c1 => exact nCells_one _
      case c2 => unfold maxLen; omega
      case c3 => omega
      case c4 => simp; omega
      intro v' w3 hown hgr
      obtain ⟨a2, c2, rfl, -, -⟩ := (SR.owns hown).form
      have HN := Lib.hid (show w3.ownsRow w.heap.size 3 1 (.slice a2 (j + 1) c2) (j + 1) (nCells (nodeL f (j + 1))) ∧ SB w3 g (nx (nx s)) ∧ Only g w w3 from ⟨by rw [nodeL_succ, ← nCells_append, HZ.out]; exact hown, (hgr.block g (by have := lt_heap HR.out.2.1; simp; omega) (fun e => by
          have h1 := (HR.out.1.lt g e.symm).1
          have h2 := lt_heap HS.out
          omega)).trans (below_at ((Below.refl _ _).alloc (Nat.le_refl _) _) (lt_heap HR.out.2.1) HR.out.2.1), (HR.out.2.2.alloc _).grown hgr (fun k e => (HR.out.1.lt k e).1)⟩)
      clear hown hgr hz hz' hwf
      go_wp2_with fail
      go_roundw
      case rel => exact ⟨j + 1, _, _, by omega, rfl, by go_num, HN⟩
      case measure => simp [intOf]; omega
    · obtain rfl : n = j := by omega
      go_wp2_with fail
      go_ret
      exact ⟨_, rfl, HR.out.1, HR.out.2.1, HR.out.2.2⟩
end Go.Proofs.Ytfgmeeponipjeaa
