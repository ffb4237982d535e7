/-
  Several texts, laid together.
-/
import Derived.Test.YtgnnijpfkgmomaaGreatDoorMh7
import Derived.Test.YtgnnijpfkgmomaaGreatDoorMh6
import Derived.Test.YtgnnijpfkgmomaaGreatDoorMh8
/-
  The waking call of layer 4; DiskNone.
-/




namespace Go.Proofs.YtgnnijpfkgmomaaGreatDoor
open Go.RowKit
set_option linter.unusedVariables false
set_option linter.unusedSimpArgs false

theorem set_zeros (n j : Nat) : (List.replicate n (0 : UInt8)).set j 0 = List.replicate n 0 := by
  apply List.ext_getElem?
  intro i
  rw [List.getElem?_set]
  split
  · rename_i h
    subst h
    by_cases hj : j < n <;> simp [hj]
  · rfl
theorem sec_step {w wr : World} {G j : Nat} {l : List UInt8} {t : TypeId} (hl : l = List.replicate 64 0) (hx : wr.heap[G]? = some (.cells (bCells l).toArray t)) (hb : Below G w wr) :
    (wr.setCell ⟨G, j, none⟩ (.int .u8 0)).heap[G]? = some (.cells (bCells l).toArray t) ∧ Below G w (wr.setCell ⟨G, j, none⟩ (.int .u8 0)) := by
  refine ⟨?_, hb.setCell (Nat.le_refl _) _⟩
  have e := bCells_set l j 0
  simp only [UInt8.toNat_zero, Int.ofNat_eq_natCast] at e
  rw [heap_set_self hx]
  have e2 : l.set j 0 = l := by
    rw [hl]
    exact set_zeros 64 j
  rw [e2] at e
  exact congrArg some (congrArg (fun c => Obj.cells c t (0, 0)) e)
/-- a disk that has been read stays -/
theorem curD_nil (n k : Nat) (h : k < n) : curD (freshS n) [] k = zeroL 64 := by
  simp [curD, freshS, h]
theorem crash_zero (S : List ByteArray) (L : List (Nat × ByteArray)) : crashS 0 S L = S := by
  unfold crashS
  have : ∀ k, endS (fun j => (fateU 0 j : Nat)) k S L = S := by
    induction L generalizing S with
    | nil => intro k; rfl
    | cons x L ih =>
      intro k
      have h : fateS ((fateU 0 k : Nat) : Int) S x = S := by simp [fateU, fateS]
      show endS _ (k + 1) (fateS ((fateU 0 k : Nat) : Int) S x) L = S
      rw [h]
      exact ih S (k + 1)
  exact this 0
end Go.Proofs.YtgnnijpfkgmomaaGreatDoor
/-
  area: May, Bytes, within, piece.
-/

namespace Go.Proofs.YtgnnijpfkgmomaaGreatDoor
open Go.RowKit
set_option linter.unusedVariables false
set_option linter.unusedSimpArgs false

/-- which areas may be -/
def mayA (f l : Int) : Bool := decide (0 ≤ f) && decide (f ≤ 4096) && decide (1 ≤ l) && decide (l ≤ 4096)
def areaV (f l : Int) : Value := .agg #[.int .i64 f, .int .i64 l]
theorem mayA_iff (f l : Int) : mayA f l = true ↔ 0 ≤ f ∧ f ≤ 4096 ∧ 1 ≤ l ∧ l ≤ 4096 := by
  simp [mayA, Bool.and_eq_true]
  omega
theorem amay (f l : Int) (w : World) : Calls Tryz.prog 51 #[areaV f l] w fun e w' => e = .returned (.bool (mayA f l)) ∧ Below w.heap.size w w' := by
  have hb : Below w.heap.size w (w.alloc (.cells #[.int .i64 f, .int .i64 l] 72)) := (Below.refl _ _).alloc (Nat.le_refl _) _
  have HB := Lib.hid hb
  clear hb
  unfold areaV
  by_cases h1 : 0 ≤ f
  · by_cases h2 : f ≤ 4096
    · by_cases h3 : 1 ≤ l
      · by_cases h4 : l ≤ 4096
        · go_enter Tryz.func51, Tryz.ntmps51
          go_wp2_with fail
          go_ret
          exact ⟨ret_bool (by first | (simp [mayA, h1, h2, h3, h4]; done) | (simp [mayA, h1, h2, h3, h4]; omega)), HB.out⟩
        · go_enter Tryz.func51, Tryz.ntmps51
          go_wp2_with fail
          go_ret
          exact ⟨ret_bool (by first | (simp [mayA, h1, h2, h3, h4]; done) | (simp [mayA, h1, h2, h3, h4]; omega)), HB.out⟩
      · go_enter Tryz.func51, Tryz.ntmps51
        go_wp2_with fail
        go_ret
        exact ⟨ret_bool (by first | (simp [mayA, h1, h2, h3]; done) | (simp [mayA, h1, h2, h3]; omega)), HB.out⟩
    · go_enter Tryz.func51, Tryz.ntmps51
      go_wp2_with fail
      go_ret
      exact ⟨ret_bool (by first | (simp [mayA, h1, h2]; done) | (simp [mayA, h1, h2]; omega)), HB.out⟩
  · go_enter Tryz.func51, Tryz.ntmps51
    go_wp2_with fail
    go_ret
    exact ⟨ret_bool (by first | (simp [mayA, h1]; done) | (simp [mayA, h1]; omega)), HB.out⟩
/-- how many bytes an area has -/
def bytesA (f l : Int) : Int := if mayA f l = true then 64 * l else 0
theorem two_cells {w w' : World} {x y : Value} {t : TypeId} (hb : Below (w.alloc (.cells #[x, y] t)).heap.size (w.alloc (.cells #[x, y] t)) w') : w'.cell? ⟨w.heap.size, 0, none⟩ = some x ∧ w'.cell? ⟨w.heap.size, 1, none⟩ = some y := by
  have h : w'.heap[w.heap.size]? = some (.cells #[x, y] t) := (hb.block w.heap.size (by simp)).trans (heap_alloc_self w _)
  exact ⟨by simp [World.cell?, h], by simp [World.cell?, h]⟩
theorem alloc_below {w w' : World} {o : Obj} (hb : Below (w.alloc o).heap.size (w.alloc o) w') : Below w.heap.size w w' := ((Below.refl _ _).alloc (Nat.le_refl _) o).trans (hb.mono (by simp))
theorem abytes (f l : Int) (w : World) : Calls Tryz.prog 28 #[areaV f l] w fun e w' => e = .returned (.int .i64 (bytesA f l)) ∧ Below w.heap.size w w' := by
  have c := fun w => amay f l w
  obtain ⟨b, hb⟩ : ∃ b, mayA f l = b := ⟨_, rfl⟩
  have hv : bytesA f l = if b = true then 64 * l else 0 := by unfold bytesA; rw [hb]
  rw [hv]
  have hiff := mayA_iff f l
  rw [hb] at hiff
  simp only [hb] at c
  unfold areaV at *
  clear hb hv
  cases b
  · clear hiff
    go_enter Tryz.func28, Tryz.ntmps28
    go_wp2_with fail
    refine Calls.mono (c _) ?_
    rintro e w2 ⟨rfl, hb⟩
    have HB := Lib.hid (alloc_below hb)
    clear hb
    go_wp2_with fail
    go_ret
    exact ⟨rfl, HB.out⟩
  · have hi := hiff.1 rfl
    have h3 := hi.2.2.1
    have h4 := hi.2.2.2
    clear hiff hi
    go_enter Tryz.func28, Tryz.ntmps28
    go_wp2_with fail
    refine Calls.mono (c _) ?_
    rintro e w2 ⟨rfl, hb⟩
    have HB := Lib.hid (alloc_below hb)
    obtain ⟨c0, c1⟩ := two_cells hb
    clear hb
    go_wp2_with fail
    go_ret
    exact ⟨ret_int (by first | omega | (simp; omega) | (rw [if_pos rfl]; omega)), HB.out⟩
/-- whether so many bytes from one on are in the area -/
def withinA (f l at' n : Int) : Bool := mayA f l && decide (0 ≤ at') && decide (0 ≤ n) && decide (at' ≤ bytesA f l) && decide (n ≤ bytesA f l - at')
set_option maxHeartbeats 800000 in
theorem awithin (f l at' n : Int) (w : World) (hat : -9223372036854775808 ≤ at' ∧ at' ≤ 9223372036854775807) : Calls Tryz.prog 86 #[areaV f l, .int .i64 at', .int .i64 n] w fun e w' => e = .returned (.bool (withinA f l at' n)) ∧ Below w.heap.size w w' := by
  have c := fun w => amay f l w
  have c2 := fun w => abytes f l w
  obtain ⟨b, hb⟩ : ∃ b, mayA f l = b := ⟨_, rfl⟩
  have hby : bytesA f l = if b = true then 64 * l else 0 := by unfold bytesA; rw [hb]
  have hiff := mayA_iff f l
  have hW : withinA f l at' n = (b && decide (0 ≤ at') && decide (0 ≤ n) && decide (at' ≤ bytesA f l) && decide (n ≤ bytesA f l - at')) := by unfold withinA; rw [hb]
  rw [hb] at hiff
  simp only [hb] at c
  obtain ⟨B, hB⟩ : ∃ B, bytesA f l = B := ⟨_, rfl⟩
  simp only [hB] at c2
  rw [hB] at hW hby
  have HW := Lib.hid hW
  unfold areaV at *
  cases b
  · clear hiff hby hW hB hb
    go_enter Tryz.func86, Tryz.ntmps86
    go_wp2_with fail
    refine Calls.mono (c _) ?_
    rintro e w2 ⟨rfl, hb⟩
    have HB := Lib.hid (alloc_below hb)
    clear hb
    go_wp2_with fail
    go_ret
    exact ⟨ret_bool (by rw [HW.out]; rfl), HB.out⟩
  · have hi := hiff.1 rfl
    have hBl : 0 ≤ B ∧ B ≤ 262144 := by
      rw [hby, if_pos rfl]
      omega
    have hB0 := hBl.1
    have hB1 := hBl.2
    clear hiff hby hW hB hb hi hBl
    by_cases h1 : 0 ≤ at'
    · by_cases h2 : 0 ≤ n
      · by_cases h3 : at' ≤ B
        · go_enter Tryz.func86, Tryz.ntmps86
          go_wp2_with fail
          refine Calls.mono (c _) ?_
          rintro e w2 ⟨rfl, hb⟩
          have HB := Lib.hid (alloc_below hb)
          have HBx := Lib.hid hb
          obtain ⟨c0, c1⟩ := two_cells hb
          clear hb
          go_wp2_with fail
          refine Calls.mono (c2 _) ?_
          rintro e w3 ⟨rfl, hb⟩
          have HB3 := Lib.hid (below_trans HB.out hb HB.out.size)
          have HBy := Lib.hid (below_trans HBx.out hb HBx.out.size)
          clear c0 c1
          obtain ⟨c0, c1⟩ := two_cells HBy.out
          clear hb
          go_wp2_with fail
          refine Calls.mono (c2 _) ?_
          rintro e w4 ⟨rfl, hb⟩
          have HB4 := Lib.hid (below_trans HB3.out hb HB3.out.size)
          clear hb
          go_wp2_with fail
          go_ret
          exact ⟨ret_bool (by rw [HW.out]; first | (simp [h1, h2, h3]; done) | (simp [h1, h2, h3]; omega)), HB4.out⟩
        · go_enter Tryz.func86, Tryz.ntmps86
          go_wp2_with fail
          refine Calls.mono (c _) ?_
          rintro e w2 ⟨rfl, hb⟩
          have HB := Lib.hid (alloc_below hb)
          obtain ⟨c0, c1⟩ := two_cells hb
          clear hb
          go_wp2_with fail
          refine Calls.mono (c2 _) ?_
          rintro e w3 ⟨rfl, hb⟩
          have HB3 := Lib.hid (below_trans HB.out hb HB.out.size)
          clear hb
          go_wp2_with fail
          go_ret
          exact ⟨ret_bool (by rw [HW.out]; first | (simp [h1, h2, h3]; done) | (simp [h1, h2, h3]; omega)), HB3.out⟩
      · go_enter Tryz.func86, Tryz.ntmps86
        go_wp2_with fail
        refine Calls.mono (c _) ?_
        rintro e w2 ⟨rfl, hb⟩
        have HB := Lib.hid (alloc_below hb)
        clear hb
        go_wp2_with fail
        go_ret
        exact ⟨ret_bool (by rw [HW.out]; first | (simp [h1, h2]; done) | (simp [h1, h2]; omega)), HB.out⟩
    · go_enter Tryz.func86, Tryz.ntmps86
      go_wp2_with fail
      refine Calls.mono (c _) ?_
      rintro e w2 ⟨rfl, hb⟩
      have HB := Lib.hid (alloc_below hb)
      clear hb
      go_wp2_with fail
      go_ret
      exact ⟨ret_bool (by rw [HW.out]; first | (simp [h1]; done) | (simp [h1]; omega)), HB.out⟩
theorem apiece (f l : Int) (at' n : Nat) (w : World) (hf : 0 ≤ f) (hf2 : f ≤ 4096) (ha : at' ≤ 262144) (hn : n ≤ 262144) : Calls Tryz.prog 87 #[areaV f l, .int .i64 at', .int .i64 n] w fun e w' => e = .returned (.tuple #[.int .i64 (f + at' / 64), .int .i64 (at' % 64 : Nat), .int .i64 (min n (64 - at' % 64) : Nat)]) ∧ Below w.heap.size w w' := by
  have hb : Below w.heap.size w (w.alloc (.cells #[.int .i64 f, .int .i64 l] 72)) := (Below.refl _ _).alloc (Nat.le_refl _) _
  have HB := Lib.hid hb
  clear hb
  unfold areaV
  have h1 : (at' : Int) % 64 < 64 := by omega
  have h2 : 0 ≤ (at' : Int) % 64 := by omega
  have h3 : (at' : Int) / 64 ≤ 4096 := by omega
  have h4 : 0 ≤ (at' : Int) / 64 := by omega
  have e1 := Lib.hid (show ((at' % 64 : Nat) : Int) = (at' : Int) % 64 by omega)
  have e2 := Lib.hid (show ((min n (64 - at' % 64) : Nat) : Int) = min (n : Int) (64 - (at' : Int) % 64) by omega)
  go_enter Tryz.func87, Tryz.ntmps87
  go_wp2_with fail
  go_ret3
  refine ⟨?_, HB.out⟩
  rw [e1.out, e2.out]
  rfl
end Go.Proofs.YtgnnijpfkgmomaaGreatDoor
/-
  disk.Read of whatever sector.
-/

namespace Go.Proofs.YtgnnijpfkgmomaaGreatDoor
open Go.RowKit
set_option linter.unusedVariables false
set_option linter.unusedSimpArgs false

def rdI (S : List ByteArray) (L : List (Nat × ByteArray)) (i : Int) : ByteArray := if 0 ≤ i ∧ i < S.length then curD S L i.toNat else ⟨#[]⟩
def erI (S : List ByteArray) (i : Int) : Int := if 0 ≤ i ∧ i < S.length then 0 else 1
theorem read_any (i : Int) (w : World) (N p : Nat) (sv lv : Value) (S : List ByteArray) (L : List (Nat × ByteArray)) (h : Dsk w N p sv lv S L) (hL : L.length ≤ 1000000000) : Calls Tryz.prog 80 #[.pointer (some ⟨p, 0, none⟩), .int .i64 i] w fun e w' => e = .returned (.tuple #[.string (rdI S L i), .int .i64 (erI S i)]) ∧ Below w.heap.size w w' := by
  unfold rdI erI
  by_cases hg : 0 ≤ i ∧ i < S.length
  · rw [if_pos hg, if_pos hg]
    obtain ⟨n, rfl⟩ : ∃ n : Nat, i = n := ⟨i.toNat, by omega⟩
    exact dread n w N p sv lv S L h (by omega) hL
  · rw [if_neg hg, if_neg hg]
    exact dread_none i w N p sv lv S L h hg
end Go.Proofs.YtgnnijpfkgmomaaGreatDoor
/-
  A disk as bytes; area.Write: the bytes are laid, piece by piece, and nothing else turns.
-/


namespace Go.Proofs.YtgnnijpfkgmomaaGreatDoor
open Go.RowKit
set_option linter.unusedVariables false
set_option linter.unusedSimpArgs false

theorem app_l (a b : ByteArray) : (a ++ b).data.toList = a.data.toList ++ b.data.toList := by simp
theorem ext_l (s : ByteArray) (a b : Nat) : (s.extract a b).data.toList = (s.data.toList.drop a).take (b - a) := Lib.extract_data s a b
theorem ext_sz (s : ByteArray) (a b : Nat) (h : b ≤ s.size) : (s.extract a b).size = b - a := by simp [ByteArray.size_extract, Nat.min_eq_left h]
def atB (s : ByteArray) (j : Nat) : UInt8 := s.data.toList.getD j 0
/-- the disk's j-th byte -/
def flatD (S : List ByteArray) (L : List (Nat × ByteArray)) (j : Nat) : UInt8 := atB (curD S L (j / 64)) (j % 64)
theorem curD_snoc (S : List ByteArray) (L : List (Nat × ByteArray)) (k : Nat) (x : ByteArray) (i : Nat) : curD S (L ++ [(k, x)]) i = if k = i then x else curD S L i := by
  unfold curD
  rw [List.reverse_append]
  show (match List.find? _ ((k, x) :: L.reverse) with | some x => x.2 | none => _) = _
  by_cases h : k = i
  · simp [h]
  · simp [h]
    rfl
theorem curD_size {S : List ByteArray} {L : List (Nat × ByteArray)} (hS : ∀ s ∈ S, s.size = 64) (hL : ∀ x ∈ L, x.1 < S.length ∧ x.2.size = 64) (i : Nat) (hi : i < S.length) : (curD S L i).size = 64 := by
  unfold curD
  split
  · rename_i x hx
    exact (hL x (List.mem_reverse.1 (List.mem_of_find?_eq_some hx))).2
  · rw [List.getD_eq_getElem?_getD, List.getElem?_eq_getElem hi]
    exact hS _ (List.getElem_mem _)
theorem atB_app (a b : ByteArray) (j : Nat) : atB (a ++ b) j = if j < a.size then atB a j else atB b (j - a.size) := by
  unfold atB
  rw [app_l, List.getD_eq_getElem?_getD, List.getElem?_append]
  show (if j < a.size then _ else _ : Option UInt8).getD 0 = _
  split
  · rfl
  · rfl
theorem atB_ext (s : ByteArray) (a b j : Nat) (hj : j < b - a) : atB (s.extract a b) j = atB s (a + j) := by
  unfold atB
  rw [ext_l, List.getD_eq_getElem?_getD, List.getElem?_take, if_pos hj, List.getElem?_drop, ← List.getD_eq_getElem?_getD]
/-- a sector of which a piece is another one -/
def spliceB (x s : ByteArray) (i m : Nat) : ByteArray := x.extract 0 i ++ s.extract 0 m ++ x.extract (i + m) 64
theorem splice_size (x s : ByteArray) (i m : Nat) (hx : x.size = 64) (hm : i + m ≤ 64) (hs : m ≤ s.size) : (spliceB x s i m).size = 64 := by
  unfold spliceB
  rw [ByteArray.size_append, ByteArray.size_append, ext_sz x 0 i (by omega), ext_sz s 0 m hs, ext_sz x (i + m) 64 (by omega)]
  omega
theorem splice_at (x s : ByteArray) (i m j : Nat) (hx : x.size = 64) (hm : i + m ≤ 64) (hs : m ≤ s.size) (hj : j < 64) : atB (spliceB x s i m) j = if i ≤ j ∧ j < i + m then atB s (j - i) else atB x j := by
  unfold spliceB
  rw [atB_app, atB_app, ByteArray.size_append, ext_sz x 0 i (by omega), ext_sz s 0 m hs]
  by_cases h1 : j < i
  · rw [if_pos (by omega), if_pos (by omega), if_neg (by omega), atB_ext x 0 i j (by omega), Nat.zero_add]
  · by_cases h2 : j < i + m
    · rw [if_pos (by omega), if_neg (by omega), if_pos ⟨by omega, h2⟩, atB_ext s 0 m _ (by omega), Nat.zero_add]
      rfl
    · rw [if_neg (by omega), if_neg (by omega), atB_ext x (i + m) 64 _ (by omega)]
      congr 1
      omega
/-- where a writing from a byte B on, of n bytes of s, has come after k of them -/
structure Laid (S : List ByteArray) (L L2 : List (Nat × ByteArray)) (B n k : Nat) (s : ByteArray) : Prop where
  flat : ∀ j, flatD S L2 j = if B ≤ j ∧ j < B + k then atB s (j - B) else flatD S L j
  more : ∃ M, L2 = L ++ M ∧ M.length ≤ k ∧ ∀ x ∈ M, ∀ j, j < 64 → ¬ (B ≤ 64 * x.1 + j ∧ 64 * x.1 + j < B + n) → atB x.2 j = flatD S L (64 * x.1 + j)
  cnt : k = 0 ∧ L2.length = L.length ∨ 0 < k ∧ L2.length = L.length + ((B + k - 1) / 64 - B / 64 + 1)
  al : k < n → k = 0 ∨ (B + k) % 64 = 0
theorem Laid.start (S : List ByteArray) (L : List (Nat × ByteArray)) (B n : Nat) (s : ByteArray) : Laid S L L B n 0 s :=
  ⟨fun j => by rw [if_neg (by omega)], ⟨[], by simp, Nat.le_refl _, by simp⟩, .inl ⟨rfl, rfl⟩, fun _ => .inl rfl⟩
theorem Laid.step {S : List ByteArray} {L L2 : List (Nat × ByteArray)} {B n k m : Nat} {s : ByteArray} (h : Laid S L L2 B n k s) (hS : ∀ s ∈ S, s.size = 64) (hL : ∀ x ∈ L2, x.1 < S.length ∧ x.2.size = 64) (hk : k + m ≤ n) (hm : 0 < m) (hin : (B + k) % 64 + m ≤ 64) (hsec : (B + k) / 64 < S.length) (hs : n ≤ s.size) (hal : k + m < n → (B + k + m) % 64 = 0) :
    Laid S L (L2 ++ [((B + k) / 64, spliceB (curD S L2 ((B + k) / 64)) (s.extract k s.size) ((B + k) % 64) m)]) B n (k + m) s := by
  have hc := curD_size hS hL _ hsec
  have hes : m ≤ (s.extract k s.size).size := by rw [ext_sz _ _ _ (Nat.le_refl _)]; omega
  obtain ⟨M, hM, hMl, hMx⟩ := h.more
  have hnew : ∀ q, q < 64 → atB (spliceB (curD S L2 ((B + k) / 64)) (s.extract k s.size) ((B + k) % 64) m) q = if B + k ≤ 64 * ((B + k) / 64) + q ∧ 64 * ((B + k) / 64) + q < B + k + m then atB s (64 * ((B + k) / 64) + q - B) else flatD S L2 (64 * ((B + k) / 64) + q) := by
    intro q hq
    rw [splice_at _ _ _ _ _ hc hin hes hq]
    by_cases hc1 : (B + k) % 64 ≤ q ∧ q < (B + k) % 64 + m
    · rw [if_pos hc1, if_pos (by omega), atB_ext _ _ _ _ (by omega)]
      congr 1
      omega
    · rw [if_neg hc1, if_neg (by omega)]
      unfold flatD
      rw [show (64 * ((B + k) / 64) + q) / 64 = (B + k) / 64 by omega, show (64 * ((B + k) / 64) + q) % 64 = q by omega]
  refine ⟨fun j => ?_, ⟨M ++ [((B + k) / 64, spliceB (curD S L2 ((B + k) / 64)) (s.extract k s.size) ((B + k) % 64) m)], by rw [hM, List.append_assoc], by simp; omega, ?_⟩, ?_, fun h => .inr (by have := hal h; omega)⟩
  · unfold flatD
    rw [curD_snoc]
    by_cases hj : (B + k) / 64 = j / 64
    · rw [if_pos hj, hnew (j % 64) (Nat.mod_lt _ (by omega)), show 64 * ((B + k) / 64) + j % 64 = j by omega, h.flat j]
      by_cases h1 : B + k ≤ j ∧ j < B + k + m
      · rw [if_pos h1, if_pos (by omega)]
      · rw [if_neg h1]
        by_cases h2 : B ≤ j ∧ j < B + k
        · rw [if_pos h2, if_pos (by omega)]
        · rw [if_neg h2, if_neg (by omega)]
          rfl
    · rw [if_neg hj]
      have := h.flat j
      unfold flatD at this
      rw [this]
      by_cases h2 : B ≤ j ∧ j < B + k
      · rw [if_pos h2, if_pos (by omega)]
      · rw [if_neg h2, if_neg (by omega)]
  · intro x hx j hj hout
    rcases List.mem_append.1 hx with hx | hx
    · exact hMx x hx j hj hout
    · simp only [List.mem_singleton] at hx
      subst hx
      simp only at hout ⊢
      rw [hnew j hj, if_neg (by omega), h.flat, if_neg (by omega)]
  · right
    refine ⟨by omega, ?_⟩
    rw [List.length_append]
    show L2.length + 1 = _
    have ha := h.al (by omega)
    rcases h.cnt with ⟨h0, hc⟩ | ⟨h0, hc⟩
    · subst h0; omega
    · have : (B + k) % 64 = 0 := by omega
      omega
end Go.Proofs.YtgnnijpfkgmomaaGreatDoor
/-
  area.Write.
-/

namespace Go.Proofs.YtgnnijpfkgmomaaGreatDoor
open Go.RowKit
set_option linter.unusedVariables false
set_option linter.unusedSimpArgs false

theorem ext_ext (s : ByteArray) (k m : Nat) (hk : k ≤ s.size) : (s.extract k s.size).extract m (s.extract k s.size).size = s.extract (k + m) s.size := by
  apply str_ext
  have h1 : (s.extract k s.size).size = s.size - k := ext_sz s k s.size (Nat.le_refl _)
  have hl : s.data.toList.length = s.size := rfl
  rw [h1, ext_l, ext_l, ext_l]
  rw [List.take_of_length_le (l := List.drop k s.data.toList) (by rw [List.length_drop, hl]; exact Nat.le_refl _), List.drop_drop]
  rw [List.take_of_length_le (by rw [List.length_drop, hl]; omega), List.take_of_length_le (by rw [List.length_drop, hl]; omega)]
theorem ext_all (s : ByteArray) : s.extract 0 s.size = s := by
  apply str_ext
  rw [ext_l, List.drop_zero, Nat.sub_zero]
  exact List.take_of_length_le (Nat.le_refl _)
/-- what the loop of Write keeps -/
structure WrR (w wr : World) (N p : Nat) (sv lv : Value) (S : List ByteArray) (L : List (Nat × ByteArray)) (B n k : Nat) (s : ByteArray) : Prop where
  ex : ∃ lv2 L2, Dsk wr N p sv lv2 S L2 ∧ Laid S L L2 B n k s ∧ DKept w wr N p sv lv lv2
theorem WrR.below {w wr w2 : World} {N p B n k : Nat} {sv lv : Value} {S : List ByteArray} {L : List (Nat × ByteArray)} {s : ByteArray} (h : WrR w wr N p sv lv S L B n k s) (hb : Below wr.heap.size wr w2) : WrR w w2 N p sv lv S L B n k s := by
  obtain ⟨lv2, L2, h1, h2, h3⟩ := h.ex
  exact ⟨lv2, L2, h1.below hb, h2, h3.trans (DKept.of_below h1.le hb)⟩
theorem WrR.base {w w2 wr : World} {N p B n k : Nat} {sv lv : Value} {S : List ByteArray} {L : List (Nat × ByteArray)} {s : ByteArray} (h : WrR w2 wr N p sv lv S L B n k s) (hk : DKept w w2 N p sv lv lv) : WrR w wr N p sv lv S L B n k s := by
  obtain ⟨lv2, L2, h1, h2, h3⟩ := h.ex
  exact ⟨lv2, L2, h1, h2, hk.trans h3⟩
theorem WrR.next {w2 w3 w6 : World} {N p B n k sec i m : Nat} {sv lv lv2 v2 : Value} {S : List ByteArray} {L L2 : List (Nat × ByteArray)} {s E Y : ByteArray} (hla : Laid S L L2 B n k s) (hd : Dsk w3 N p sv lv2 S L2) (hk : DKept w2 w3 N p sv lv lv2) (hd6 : Dsk w6 N p sv v2 S (L2 ++ [(sec, Y)])) (hk6 : DKept w3 w6 N p sv lv2 v2)
    (hY : Y = spliceB (curD S L2 sec) E i m) (hE : E = s.extract k s.size) (hsec : (B + k) / 64 = sec) (hi : (B + k) % 64 = i) (hkm : k + m ≤ n) (hm : 0 < m) (him : i + m ≤ 64) (hin : sec < S.length) (hn : n ≤ s.size) (hal : k + m < n → (B + k + m) % 64 = 0) : WrR w2 w6 N p sv lv S L B n (k + m) s := by
  subst hsec hi hE hY
  exact ⟨v2, _, hd6, hla.step hd.sizes hd.ats hkm hm him hin hn hal, hk.trans hk6⟩
/-- what Write answers -/
def AWrote (w : World) (N p : Nat) (sv lv : Value) (S : List ByteArray) (L : List (Nat × ByteArray)) (B n : Nat) (s : ByteArray) (e : Ending) (w' : World) : Prop :=
  ∃ (r : Int) (k : Nat), e = .returned (.int .i64 r) ∧ (B + n ≤ 64 * S.length → r = 0 ∧ k = n) ∧ WrR w w' N p sv lv S L B n k s
theorem awrite_bad (d : Value) (f l at' : Int) (s : ByteArray) (w : World) (hs : s.size ≤ maxLen) (hat : -9223372036854775808 ≤ at' ∧ at' ≤ 9223372036854775807) (h : withinA f l at' s.size = false) : Calls Tryz.prog 67 #[d, areaV f l, .int .i64 at', .string s] w fun e w' => e = .returned (.int .i64 1) ∧ Below w.heap.size w w' := by
  have c := fun w => awithin f l at' s.size w hat
  simp only [h] at c
  unfold areaV maxLen at *
  clear h hat
  go_enter Tryz.func67, Tryz.ntmps67
  go_wp2_with fail
  refine Calls.mono (c _) ?_
  rintro e w2 ⟨rfl, hb⟩
  have HB := Lib.hid (alloc_below hb)
  clear hb
  go_wp2_with fail
  go_ret
  exact ⟨rfl, HB.out⟩
set_option maxHeartbeats 3200000 in
set_option maxRecDepth 100000 in
theorem awrite (f l at' : Nat) (s : ByteArray) (w : World) (N p : Nat) (sv lv : Value) (S : List ByteArray) (L : List (Nat × ByteArray)) (hd : Dsk w N p sv lv S L) (hL : L.length + s.size ≤ 1000000) (hw : withinA f l at' s.size = true) :
    Calls Tryz.prog 67 #[.pointer (some ⟨p, 0, none⟩), areaV f l, .int .i64 at', .string s] w (AWrote w N p sv lv S L (64 * f + at') s.size s) := by
  obtain ⟨g1, g2, g3, g4, g5⟩ : f ≤ 4096 ∧ 1 ≤ l ∧ l ≤ 4096 ∧ at' ≤ 64 * l ∧ s.size ≤ 64 * l - at' := by
    unfold withinA at hw
    simp only [Bool.and_eq_true, decide_eq_true_eq] at hw
    obtain ⟨⟨⟨⟨h1, h2⟩, h3⟩, h4⟩, h5⟩ := hw
    have hm := (mayA_iff f l).1 h1
    unfold bytesA at h4 h5
    rw [if_pos h1] at h4 h5
    omega
  have c := fun w => awithin f l at' s.size w (by omega)
  simp only [hw] at c
  obtain ⟨n, hn⟩ : ∃ n, s.size = n := ⟨_, rfl⟩
  rw [hn] at c g5 hL
  rw [hn]
  have hnb : n ≤ 262144 := by omega
  have hab : at' ≤ 262144 := by omega
  have hE := ext_all s
  rw [hn] at hE
  have HN := Lib.hid hn
  have HE := Lib.hid hE
  have HD := Lib.hid hd
  have HBx := Lib.hid ((Below.refl w.heap.size w).alloc (Nat.le_refl _) (.cells #[.int .i64 f, .int .i64 l] 72))
  have HX := Lib.hid (heap_alloc_self w (.cells #[.int .i64 f, .int .i64 l] 72))
  have hsz : (s.size : Int) = n := by omega
  unfold areaV at *
  clear hw hn hE hd
  have hps := HD.out.lt
  go_enter Tryz.func67, Tryz.ntmps67
  go_wp2_with fail
  refine Calls.mono (c _) ?_
  rintro e w2 ⟨rfl, hb⟩
  have HX2 := Lib.hid ((hb.block w.heap.size (by simp)).trans HX.out)
  have HB2 := Lib.hid (alloc_below hb)
  have HD2 := Lib.hid (HD.out.below HB2.out)
  have hsv : some w.heap.size ≠ sv.ownBlock := fun e => by have := (HD.out.sure.lt _ e.symm).2; omega
  have hlv : some w.heap.size ≠ lv.ownBlock := fun e => by have := (HD.out.later.lt _ e.symm).2; omega
  have HK := Lib.hid (DKept.of_below (p := p) (sv := sv) (lv := lv) HD.out.le HB2.out)
  obtain ⟨q, hq⟩ : ∃ q, w.heap.size = q := ⟨_, rfl⟩
  rw [hq] at HX2 hsv hlv hps
  try rw [hq]
  clear hb c HBx HX hq HB2
  have hcell : ∀ wr lv2, DKept w2 wr N p sv lv lv2 → wr.heap[q]? = some (.cells #[.int .i64 f, .int .i64 l] 72) := fun wr lv2 hk => (hk.block q (lt_heap HX2.out) (by omega) hsv hlv).trans HX2.out
  have HC := Lib.hid hcell
  clear hcell hsv hlv
  go_wp2_with fail
  go_loopw [2, 3] (fun tv ev wr => ∃ (k R T : Nat) (E : ByteArray), k + R = n ∧ T = at' + k ∧ E = s.extract k n ∧ tv = .int .i64 T ∧ ev = .string E ∧ WrR w2 wr N p sv lv S L (64 * f + at') n k s) (fun _ ev _ => (match ev with | .string E => E.size | _ => 0))
  case atStart => exact ⟨0, n, at', s, by omega, rfl, HE.out.symm, rfl, rfl, lv, L, HD2.out, Laid.start _ _ _ _ _, DKept.refl _ _ _ _ _⟩
  case round =>
    obtain ⟨k, R, T, E, hkR, hT, hE, rfl, rfl, hrel⟩ := hrel
    have hEs : E.size = R := by rw [hE]; have := HN.out; rw [ext_sz _ _ _ (by omega)]; omega
    have hEi : (E.size : Int) = R := by omega
    have HR := Lib.hid hrel
    have HE2 := Lib.hid hE
    have HEs := Lib.hid hEs
    clear hrel hE hEs
    by_cases hlt : 0 < R
    · obtain ⟨lv2, L2, hd2, hla, hk2⟩ := HR.out.ex
      have hx := HC.out wr lv2 hk2
      have c0 : wr.cell? ⟨q, 0, none⟩ = some (.int .i64 f) := by simp [World.cell?, hx]
      have c1 : wr.cell? ⟨q, 1, none⟩ = some (.int .i64 l) := by simp [World.cell?, hx]
      have cp := fun w => apiece f l T R w (by omega) (by omega) (by omega) (by omega)
      obtain ⟨i, hi⟩ : ∃ i, T % 64 = i := ⟨_, rfl⟩
      obtain ⟨m, hm⟩ : ∃ m, min R (64 - i) = m := ⟨_, rfl⟩
      obtain ⟨sec, hsec⟩ : ∃ sec, f + T / 64 = sec := ⟨_, rfl⟩
      simp only [hi, hm, show ((f : Int) + (T : Int) / 64) = (sec : Int) by omega] at cp
      have hi1 : i < 64 := by omega
      have hm1 : i + m ≤ 64 := by omega
      have hm2 : m ≤ R := by omega
      have hm3 : 0 < m := by omega
      have hsl : sec ≤ 10000 := by omega
      have hTb : T ≤ 1000000 := by omega
      have HF := Lib.hid (And.intro hi (And.intro hm (And.intro hsec (And.intro hkR hT))))
      have HLA := Lib.hid hla
      have HD3 := Lib.hid hd2
      have HK2 := Lib.hid hk2
      have hlti : 0 < (R : Int) := by omega
      unfold areaV at cp
      clear hi hm hsec hx hla hd2 hk2 hkR hT
      go_wp2_with fail
      refine Calls.mono (cp _) ?_
      rintro e w3 ⟨rfl, hb⟩
      have HB3 := Lib.hid hb
      have HD4 := Lib.hid (HD3.out.below hb)
      clear hb cp c0 c1
      by_cases hin : sec < S.length
      · have cr := dread sec w3 N p sv lv2 S L2 HD4.out hin (by obtain ⟨M, hM, hMl, _⟩ := HLA.out.more; have := HF.out.2.2.2.1; rw [hM, List.length_append]; omega)
        have hXs := curD_size HD4.out.sizes HD4.out.ats sec hin
        obtain ⟨X, hX⟩ : ∃ X, curD S L2 sec = X := ⟨_, rfl⟩
        rw [hX] at cr hXs
        have HXX := Lib.hid hX
        have HXs := Lib.hid hXs
        have hXi : (X.size : Int) = 64 := by omega
        obtain ⟨A1, hA1⟩ : ∃ A, X.extract 0 i = A := ⟨_, rfl⟩
        obtain ⟨A2, hA2⟩ : ∃ A, E.extract 0 m = A := ⟨_, rfl⟩
        obtain ⟨A3, hA3⟩ : ∃ A, X.extract (i + m) X.size = A := ⟨_, rfl⟩
        have hA3' : X.extract (i + m) 64 = A3 := by rw [← hA3, hXs]
        obtain ⟨A4, hA4⟩ : ∃ A, E.extract m E.size = A := ⟨_, rfl⟩
        have hA4' : E.extract m R = A4 := by rw [← hA4, HEs.out]
        have s1 : A1.size ≤ 64 := by rw [← hA1, ext_sz _ _ _ (by omega)]; omega
        have s2 : A2.size ≤ 64 := by have := HEs.out; rw [← hA2, ext_sz _ _ _ (by omega)]; omega
        have s3 : A3.size ≤ 64 := by rw [← hA3', ext_sz _ _ _ (by omega)]; omega
        have k1 : ¬ 9223372036854775807 < A1.size + A2.size := by omega
        have k2 : ¬ 9223372036854775807 < A1.size + A2.size + A3.size := by omega
        have k3 : IntKind.i64.wrap ((i : Int) + (m : Int)) = (i : Int) + m := by rw [IntKind.wrap_i64]; omega
        have k4 : ((i : Int) + (m : Int)) ≤ 64 := by omega
        have k5 : ((i : Int) + (m : Int)).toNat = i + m := by omega
        have k6 : 0 ≤ ((i : Int) + (m : Int)) := by omega
        have k7 : (i : Int) ≤ 64 := by omega
        have k8 : (m : Int) ≤ R := by omega
        have k9 : 0 ≤ (i : Int) := by omega
        have k10 : 0 ≤ (m : Int) := by omega
        have hsp : A1 ++ A2 ++ A3 = spliceB X E i m := by unfold spliceB; rw [hA1, hA2, hA3']
        have hsps : (spliceB X E i m).size = 64 := splice_size X E i m hXs hm1 (by rw [HEs.out]; exact hm2)
        have HSP := Lib.hid hsp
        have HSS := Lib.hid hsps
        have hA4e := Lib.hid (show A4 = s.extract (k + m) n by
          have h1 := ext_ext s k m (by have := HF.out.2.2.2.1; have := HN.out; omega)
          have h2 := HN.out
          rw [h2] at h1
          rw [← HE2.out] at h1
          rw [← hA4]
          exact h1)
        have cw := fun (w' : World) (hb : Below w3.heap.size w3 w') => dwrite sec (A1 ++ A2 ++ A3) w' N p sv lv2 S L2 (HD4.out.below hb) hin (by rw [hsp]; omega) (by obtain ⟨M, hM, hMl, _⟩ := HLA.out.more; have := HF.out.2.2.2.1; rw [hM, List.length_append]; omega)
        have hzz : (A1 ++ A2 ++ A3) ++ zeroL (64 - (A1 ++ A2 ++ A3).size) = A1 ++ A2 ++ A3 := by
          rw [hsp, hsps]
          apply str_ext
          simp [zeroL]
        simp only [hzz] at cw
        have CW := Lib.hid cw
        clear hX hXs hsp hsps hzz cw
        go_wp2_with fail
        refine Calls.mono cr ?_
        rintro e w4 ⟨rfl, hb⟩
        have cww := CW.out
        have HB4 := Lib.hid hb
        clear hb cr
        go_upto_region 8 with fail
        go_still_tail 15, (by kernel_rfl)
        change wpList _ _ _ _ _ w4.drew
        have cwd := cww w4.drew (below_drew' HB4.out)
        have HB5 := Lib.hid (below_drew' HB4.out)
        generalize w4.drew = w5 at *
        clear cww
        go_wp2_with fail
        refine Calls.mono cwd ?_
        rintro e w6 ⟨rfl, v2, hd6, hk6⟩
        have HR6 := Lib.hid (WrR.next (n := n) (s := s) (E := E) (i := i) (m := m) HLA.out HD4.out (HK2.out.trans (DKept.of_below HD3.out.le HB3.out)) hd6 ((DKept.of_below HD4.out.le HB5.out).trans hk6) (by rw [HXX.out]; exact HSP.out) (by rw [HN.out]; exact HE2.out) (by have := HF.out; omega) (by have := HF.out; omega) (by have := HF.out; omega) hm3 hm1 hin (by rw [HN.out]; exact Nat.le_refl _) (by have := HF.out; omega))
        have HA4 := Lib.hid (show A4.size = R - m by rw [hA4e.out, ext_sz s (k + m) n (by have := HN.out; omega)]; have := HF.out.2.2.2.1; omega)
        clear hd6 hk6 CW hA1 hA2 hA3 hA3' cwd k1 k2 k3 k5
        go_wp2_with fail
        go_roundw
        case rel => exact ⟨k + m, R - m, T + m, A4, by have := HF.out; omega, by have := HF.out; omega, hA4e.out, by go_num, rfl, HR6.out⟩
        case measure => simp only; rw [HA4.out, HEs.out]; omega
      · have hv : rdI S L2 sec = ⟨#[]⟩ := by unfold rdI; rw [if_neg (by omega)]
        have hev : erI S sec = 1 := by unfold erI; rw [if_neg (by omega)]
        have cr := read_any sec w3 N p sv lv2 S L2 HD4.out (by obtain ⟨M, hM, hMl, _⟩ := HLA.out.more; have := HF.out.2.2.2.1; rw [hM, List.length_append]; omega)
        rw [hv, hev] at cr
        clear hv hev
        go_wp2_with fail
        refine Calls.mono cr ?_
        rintro e w4 ⟨rfl, hb⟩
        have HB4 := Lib.hid hb
        clear hb cr
        go_wp2_with fail
        go_ret
        exact ⟨1, k, rfl, fun h => by have := HF.out; omega, ((HR.out.below HB3.out).below HB4.out).base HK.out⟩
    · obtain rfl : R = 0 := by omega
      obtain rfl : k = n := by omega
      go_wp2_with fail
      go_ret
      exact ⟨0, k, rfl, fun _ => ⟨rfl, rfl⟩, HR.out.base HK.out⟩
end Go.Proofs.YtgnnijpfkgmomaaGreatDoor
/-
  super.Write, upon a disk; reading a pair of a disk's sectors; SuperPuts, SuperTorn.
-/




namespace Go.Proofs.YtgnnijpfkgmomaaGreatDoor
open Go.RowKit
set_option linter.unusedVariables false
set_option linter.unusedSimpArgs false

theorem swrite_bad (dv : Value) (at' : Int) (n : Nat) (s : ByteArray) (w : World) (hn : n < 18446744073709551616) (hs : s.size ≤ maxLen) (h : n = 0 ∨ 48 < s.size ∨ at' < 0 ∨ 4096 < at') : Calls Tryz.prog 72 #[dv, .int .i64 at', .int .u64 n, .string s] w fun e w' => e = .returned (.int .i64 1) ∧ Below w.heap.size w w' := by
  by_cases hb : n = 0 ∨ 48 < s.size
  · have c := fun w => sput_none n s w hb hs
    clear hb h hs
    go_enter Tryz.func72, Tryz.ntmps72
    go_wp2_with fail
    refine Calls.mono (c _) ?_
    rintro e w2 ⟨rfl, rfl⟩
    go_wp2_with fail
    go_ret
    exact ⟨rfl, Below.refl _ _⟩
  · have hg : (decide (0 ≤ at') && decide (at' ≤ 4096)) = false := by
      have : at' < 0 ∨ 4096 < at' := by omega
      rcases this with h | h <;> simp <;> omega
    have cm := fun w => smay at' w
    rw [hg] at cm
    have c := fun w => sput n s w (by omega) hn (by omega)
    have hz := putS_size n s (by omega)
    obtain ⟨P, hP⟩ : ∃ P, putS n s = P := ⟨_, rfl⟩
    rw [hP] at c hz
    have hne : P ≠ ⟨#[]⟩ := fun e => by rw [e] at hz; cases hz
    have n1 := ba_ne hne
    have n2 := ba_empty hne
    have n3 : P.toList.isEmpty = false := by simpa using n2
    clear hb h hs hg hP hz hne
    go_enter Tryz.func72, Tryz.ntmps72
    go_wp2_with fail
    refine Calls.mono (c _) ?_
    rintro e w2 ⟨rfl, hb⟩
    have HB := Lib.hid hb
    clear hb
    go_wp2_with fail
    refine Calls.mono (cm _) ?_
    rintro e w2 ⟨rfl, rfl⟩
    go_wp2_with fail
    go_ret
    exact ⟨rfl, HB.out⟩
set_option maxHeartbeats 800000 in
theorem swrite (at' n : Nat) (s : ByteArray) (w : World) (N p : Nat) (sv lv : Value) (S : List ByteArray) (L : List (Nat × ByteArray)) (h : Dsk w N p sv lv S L) (hL : L.length ≤ 1000000) (h0 : n ≠ 0) (hn : n < 18446744073709551616) (hs : s.size ≤ 48) (ha : at' ≤ 4096) (hat : at' + n % 2 < S.length) :
    Calls Tryz.prog 72 #[.pointer (some ⟨p, 0, none⟩), .int .i64 at', .int .u64 n, .string s] w fun e w' => e = .returned (.int .i64 0) ∧ ∃ v2, Dsk w' N p sv v2 S (L ++ [(at' + n % 2, putS n s)]) ∧ DKept w w' N p sv lv v2 := by
  have hg : (decide (0 ≤ (at' : Int)) && decide ((at' : Int) ≤ 4096)) = true := by simp; omega
  have cm := fun w => smay at' w
  rw [hg] at cm
  have c := fun w => sput n s w h0 hn hs
  have hz := putS_size n s hs
  have cw := fun (w' : World) (hb : Below w.heap.size w w') => dwrite (at' + n % 2) (putS n s) w' N p sv lv S L (h.below hb) hat (by omega) hL
  have hzz : putS n s ++ zeroL (64 - (putS n s).size) = putS n s := by
    rw [hz]
    apply str_ext
    simp [zeroL]
  simp only [hzz] at cw
  obtain ⟨P, hP⟩ : ∃ P, putS n s = P := ⟨_, rfl⟩
  rw [hP] at c hz ⊢
  simp only [hP] at cw
  have hne : P ≠ ⟨#[]⟩ := fun e => by rw [e] at hz; cases hz
  have n1 := ba_ne hne
  have n2 := ba_empty hne
  have n3 : P.toList.isEmpty = false := by simpa using n2
  have HD := Lib.hid h
  simp only [show ((at' + n % 2 : Nat) : Int) = (at' : Int) + (n : Int) % 2 by omega] at cw
  have CW := Lib.hid cw
  clear hs hg hP hz hne hzz h h0 cw
  have hm1 : (n : Int) % 2 < 2 := by omega
  have hm0 : 0 ≤ (n : Int) % 2 := by omega
  go_enter Tryz.func72, Tryz.ntmps72
  go_wp2_with fail
  refine Calls.mono (c _) ?_
  rintro e w2 ⟨rfl, hb⟩
  have HB := Lib.hid hb
  have c2 := CW.out w2 hb
  clear hb
  go_wp2_with fail
  refine Calls.mono (cm _) ?_
  rintro e w2 ⟨rfl, rfl⟩
  go_wp2_with fail
  refine Calls.mono c2 ?_
  rintro e w3 ⟨rfl, v2, hd, hk⟩
  have HD2 := Lib.hid hd
  have HK := Lib.hid ((DKept.of_below HD.out.le HB.out).trans hk)
  clear hd hk
  go_wp2_with fail
  go_ret
  exact ⟨rfl, v2, HD2.out, HK.out⟩
set_option maxHeartbeats 800000 in
theorem swrite_out (at' n : Nat) (s : ByteArray) (w : World) (N p : Nat) (sv lv : Value) (S : List ByteArray) (L : List (Nat × ByteArray)) (h : Dsk w N p sv lv S L) (h0 : n ≠ 0) (hn : n < 18446744073709551616) (hs : s.size ≤ 48) (ha : at' ≤ 4096) (hat : ¬ at' + n % 2 < S.length) :
    Calls Tryz.prog 72 #[.pointer (some ⟨p, 0, none⟩), .int .i64 at', .int .u64 n, .string s] w fun e w' => e = .returned (.int .i64 1) ∧ Below w.heap.size w w' := by
  have hg : (decide (0 ≤ (at' : Int)) && decide ((at' : Int) ≤ 4096)) = true := by simp; omega
  have cm := fun w => smay at' w
  rw [hg] at cm
  have c := fun w => sput n s w h0 hn hs
  have hz := putS_size n s hs
  have cw := fun (w' : World) (hb : Below w.heap.size w w') => dwrite_none ((at' + n % 2 : Nat) : Int) (putS n s) w' N p sv lv S L (h.below hb) (.inl (by omega))
  obtain ⟨P, hP⟩ : ∃ P, putS n s = P := ⟨_, rfl⟩
  rw [hP] at c hz
  simp only [hP] at cw
  have hne : P ≠ ⟨#[]⟩ := fun e => by rw [e] at hz; cases hz
  have n1 := ba_ne hne
  have n2 := ba_empty hne
  have n3 : P.toList.isEmpty = false := by simpa using n2
  simp only [show ((at' + n % 2 : Nat) : Int) = (at' : Int) + (n : Int) % 2 by omega] at cw
  have CW := Lib.hid cw
  clear hs hg hP hz hne h h0 cw
  have hm1 : (n : Int) % 2 < 2 := by omega
  have hm0 : 0 ≤ (n : Int) % 2 := by omega
  go_enter Tryz.func72, Tryz.ntmps72
  go_wp2_with fail
  refine Calls.mono (c _) ?_
  rintro e w2 ⟨rfl, hb⟩
  have HB := Lib.hid hb
  have c2 := CW.out w2 hb
  clear hb
  go_wp2_with fail
  refine Calls.mono (cm _) ?_
  rintro e w2 ⟨rfl, rfl⟩
  go_wp2_with fail
  refine Calls.mono c2 ?_
  rintro e w3 ⟨rfl, rfl⟩
  go_wp2_with fail
  go_ret
  exact ⟨rfl, HB.out⟩
end Go.Proofs.YtgnnijpfkgmomaaGreatDoor
