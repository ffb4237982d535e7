/-
  Several texts, laid together.
-/
import Derived.Test.YtadejhlljdcocaaMg14
import Derived.Test.YtadejhlljdcocaaMg10
import Derived.Test.YtadejhlljdcocaaRows
import Derived.WalkKit
import Derived.Lib.BitFns
/-
  source.Pick.
-/



namespace Go.Proofs.Ytadejhlljdcocaa
open Go.RowKit
set_option linter.unusedVariables false
set_option linter.unusedSimpArgs false

/-- what Pick gives: everything, if enough is known -/
noncomputable def pickW (E : Int) (M : Nat) (ts : List TD) : Option (List HI) :=
  if E = 0 then some [] else
  match newT E ts with
  | some t => some (putAll [] t.A)
  | none => match firstT E 2 ts with
    | none => none
    | some t => if M = 0 then some (putAll [] t.A) else
      match firstT E 1 ts with
      | none => none
      | some m => some (putAll [] (t.A ++ m.D))
/-- whatever is told may be -/
structure TOk (t : TD) : Prop where
  A : ∀ x ∈ t.A, Ok x
  D : ∀ x ∈ t.D, Ok x
  la : t.A.length ≤ 1000
  ld : t.D.length ≤ 1000
def SPickPost (o : Option (List HI)) (w : World) (e : Ending) (w' : World) : Prop :=
  ∃ v', e = .returned (.tuple #[v', .bool o.isSome]) ∧ SR w' v' 3 (o.getD []).length (hCells (o.getD [])) ∧ Below w.heap.size w w'
theorem firstT_mem {E d : Int} {ts : List TD} {t : TD} (h : firstT E d ts = some t) : t ∈ ts := List.mem_of_find?_eq_some h
theorem nfold_mem (ts : List TD) : ∀ (s : Option TD × Int) (t : TD), (ts.foldl nstep s).1 = some t → t ∈ ts ∨ s.1 = some t := by
  induction ts with
  | nil => intro s t h; exact .inr h
  | cons x r ih =>
    intro s t h
    rcases ih _ t h with h | h
    · exact .inl (List.mem_cons_of_mem _ h)
    · unfold nstep at h
      split at h
      · cases h
        exact .inl (List.mem_cons_self ..)
      · exact .inr h
theorem newT_mem {E : Int} {ts : List TD} {t : TD} (h : newT E ts = some t) : t ∈ ts := by
  rcases nfold_mem ts _ t h with h | h
  · exact h
  · cases h
set_option maxHeartbeats 6400000 in
set_option maxRecDepth 100000 in
theorem spick (E b k : Int) (ma ca : Option Addr) (M mc nC cc : Nat) (ts : List TD) (hok : ∀ t ∈ ts, TOk t) (w : World) (v : Value) (hv : TDs w v ts) :
    Calls Try.prog 45 #[.agg #[.int .i64 E, .int .i64 b, .int .i64 k, .slice ma M mc, .slice ca nC cc], v] w (SPickPost (pickW E M ts) w) := by
  have hb0 := (Below.refl w.heap.size w).alloc (Nat.le_refl _) (.cells #[.int .i64 E, .int .i64 b, .int .i64 k, .slice ma M mc, .slice ca nC cc] 31)
  have hx := heap_alloc_self w (.cells #[.int .i64 E, .int .i64 b, .int .i64 k, .slice ma M mc, .slice ca nC cc] 31)
  obtain ⟨a, cap, rfl, hlc, hcm⟩ := hv.1.form
  unfold maxLen at hcm
  have HV := Lib.hid hv
  have HK := Lib.hid hok
  clear hv hok
  obtain ⟨n, hn⟩ : ∃ n, ts.length = n := ⟨_, rfl⟩
  rw [hn] at HV hlc
  rw [hn]
  clear hn
  obtain ⟨o, ho⟩ : ∃ o, pickW E M ts = o := ⟨_, rfl⟩
  rw [ho]
  have HP := Lib.hid ho
  clear ho
  by_cases hE : E = 0
  · have eo : o = some [] := by rw [← HP.out]; simp [pickW, hE]
    subst eo
    subst hE
    have HB := Lib.hid hb0
    clear hb0
    go_enter Try.func45, Try.ntmps45
    go_wp2_with fail
    refine bodyPost_ret (v := .tuple #[.slice none 0 0, .bool true]) (by simp [results, Try.results45, go_sem]) rfl ?_
    exact ⟨_, rfl, ⟨none, 0, rfl, Nat.le_refl _, by decide, rfl, .inl rfl⟩, HB.out⟩
  · have hE1 : (E == 0) = false := by simp [hE]
    have HE := Lib.hid hE
    clear hE
    go_enter Try.func45, Try.ntmps45
    go_upto_region 3 with fail
    generalize w.alloc (.cells #[.int .i64 E, .int .i64 b, .int .i64 k, .slice ma M mc, .slice ca nC cc] 31) = w1 at *
    have c0 := scell hx 0 (v := .int .i64 E) rfl
    have cn := snewest E ts w1 (.slice a n cap) (HV.out.go hb0)
    have HB := Lib.hid hb0
    have HX := Lib.hid hx
    clear hb0 hx
    unfold FirstPost at cn
    cases hN : newT E ts with
    | some t =>
      have htm := newT_mem hN
      obtain ⟨⟨aD, cD, eD⟩, ⟨aA, cA, eA⟩⟩ := TD.forms (HV.out.2 t htm)
      have hat := ((HV.out.2 t htm).go HB.out).2
      have hcl : t.cells = #[.int .i64 t.e, .int .i64 t.d, .slice aD t.D.length cD, .slice aA t.A.length cA] := by unfold TD.cells; rw [eD, eA]
      rw [hN] at cn
      simp only [Option.getD, Option.isSome, hcl] at cn
      rw [eA] at hat
      have HO := Lib.hid (HK.out t htm).A
      have HAT := Lib.hid hat
      have HN := Lib.hid hN
      clear hN htm eD eA hat hcl
      go_wp2_with fail
      refine Calls.mono cn ?_
      rintro e w2 ⟨rfl, hb2⟩
      have hy := heap_alloc_self w2 (.cells #[.int .i64 t.e, .int .i64 t.d, .slice aD t.D.length cD, .slice aA t.A.length cA] 83)
      have hb3 := hb2.alloc (hb2.size) (.cells #[.int .i64 t.e, .int .i64 t.d, .slice aD t.D.length cD, .slice aA t.A.length cA] 83)
      clear cn c0 hb2
      go_upto_region 5 with fail
      generalize w2.alloc (.cells #[.int .i64 t.e, .int .i64 t.d, .slice aD t.D.length cD, .slice aA t.A.length cA] 83) = w3 at *
      have d3 := scell hy 3 (v := .slice aA t.A.length cA) rfl
      have ci := iof t.A HO.out w3 _ (HAT.out.below hb3)
      have HB3 := Lib.hid (HB.out.trans (hb3.mono HB.out.size))
      clear hb3 hy
      go_wp2_with fail
      refine Calls.mono ci ?_
      rintro e w4 ⟨rfl, sv, hs, hb4⟩
      have cs := sall _ _ _ _ _ hs
      have HB4 := Lib.hid (HB3.out.trans (hb4.mono HB3.out.size))
      clear hs hb4 ci d3
      go_wp2_with fail
      refine Calls.mono cs ?_
      rintro e w5 ⟨v', rfl, ho, hb5⟩
      have HO5 := Lib.hid ho
      have HB5 := Lib.hid (HB4.out.trans (hb5.mono HB4.out.size))
      clear ho hb5 cs
      go_wp2_with fail
      refine bodyPost_ret (v := .tuple #[v', .bool true]) (by simp [results, Try.results45, go_sem]) rfl ?_
      have eo : o = some (putAll [] t.A) := by rw [← HP.out]; simp [pickW, HE.out, HN.out]
      subst eo
      exact ⟨_, rfl, SR.owns HO5.out, HB5.out⟩
    | none =>
      rw [hN] at cn
      simp only [Option.getD, Option.isSome, show TD0.cells = #[.int .i64 0, .int .i64 0, .slice none 0 0, .slice none 0 0] from rfl] at cn
      have HN := Lib.hid hN
      clear hN
      go_wp2_with fail
      refine Calls.mono cn ?_
      rintro e w2 ⟨rfl, hb2⟩
      have hb3 := hb2.alloc (hb2.size) (.cells #[.int .i64 0, .int .i64 0, .slice none 0 0, .slice none 0 0] 83)
      clear cn c0 hb2
      go_upto_region 6 with fail
      generalize w2.alloc (.cells #[.int .i64 0, .int .i64 0, .slice none 0 0, .slice none 0 0] 83) = w3 at *
      have hx3 := below_at hb3 (lt_heap HX.out) HX.out
      have c0 := scell hx3 0 (v := .int .i64 E) rfl
      have HB3 := Lib.hid (HB.out.trans (hb3.mono HB.out.size))
      have HX3 := Lib.hid hx3
      have cf := sfirst E 2 ts w3 (.slice a n cap) (HV.out.go HB3.out)
      clear hb3 hx3
      unfold FirstPost at cf
      cases hF : firstT E 2 ts with
      | none =>
        rw [hF] at cf
        simp only [Option.getD, Option.isSome, show TD0.cells = #[.int .i64 0, .int .i64 0, .slice none 0 0, .slice none 0 0] from rfl] at cf
        have HF := Lib.hid hF
        clear hF
        go_wp2_with fail
        refine Calls.mono cf ?_
        rintro e w4 ⟨rfl, hb4⟩
        have HB5 := Lib.hid (HB3.out.trans ((hb4.alloc hb4.size (.cells #[.int .i64 0, .int .i64 0, .slice none 0 0, .slice none 0 0] 83)).mono HB3.out.size))
        clear cf c0 hb4
        go_wp2_with fail
        refine bodyPost_ret (v := .tuple #[.slice none 0 0, .bool false]) (by simp [results, Try.results45, go_sem]) rfl ?_
        have eo : o = none := by rw [← HP.out]; simp [pickW, HE.out, HN.out, HF.out]
        subst eo
        exact ⟨_, rfl, ⟨none, 0, rfl, Nat.le_refl _, by decide, rfl, .inl rfl⟩, HB5.out⟩
      | some t =>
        have htm := firstT_mem hF
        obtain ⟨⟨aD, cD, eD⟩, ⟨aA, cA, eA⟩⟩ := TD.forms (HV.out.2 t htm)
        have hat := ((HV.out.2 t htm).go HB3.out).2
        have hcl : t.cells = #[.int .i64 t.e, .int .i64 t.d, .slice aD t.D.length cD, .slice aA t.A.length cA] := by unfold TD.cells; rw [eD, eA]
        rw [hF] at cf
        simp only [Option.getD, Option.isSome, hcl] at cf
        rw [eA] at hat
        have HO := Lib.hid (HK.out t htm)
        have HAT := Lib.hid hat
        have HF := Lib.hid hF
        clear hF htm eD eA hat hcl
        go_wp2_with fail
        refine Calls.mono cf ?_
        rintro e w4 ⟨rfl, hb4⟩
        have hy := heap_alloc_self w4 (.cells #[.int .i64 t.e, .int .i64 t.d, .slice aD t.D.length cD, .slice aA t.A.length cA] 83)
        have hb5 := hb4.alloc (hb4.size) (.cells #[.int .i64 t.e, .int .i64 t.d, .slice aD t.D.length cD, .slice aA t.A.length cA] 83)
        clear cf c0 hb4
        go_upto_region 9 with fail
        generalize w4.alloc (.cells #[.int .i64 t.e, .int .i64 t.d, .slice aD t.D.length cD, .slice aA t.A.length cA] 83) = w5 at *
        have hx5 := below_at hb5 (lt_heap HX3.out) HX3.out
        have c0 := scell hx5 0 (v := .int .i64 E) rfl
        have c3 := scell hx5 3 (v := .slice ma M mc) rfl
        have d3 := scell hy 3 (v := .slice aA t.A.length cA) rfl
        have HB5 := Lib.hid (HB3.out.trans (hb5.mono HB3.out.size))
        have HAT5 := Lib.hid (HAT.out.below hb5)
        have HY := Lib.hid hy
        clear hb5 hx5 hy HAT
        by_cases hM : M = 0
        · subst hM
          have ci := iof t.A HO.out.A w5 _ HAT5.out
          go_wp2_with fail
          refine Calls.mono ci ?_
          rintro e w6 ⟨rfl, sv, hs, hb6⟩
          have cs := sall _ _ _ _ _ hs
          have HB6 := Lib.hid (HB5.out.trans (hb6.mono HB5.out.size))
          clear hs hb6 ci d3 c0 c3
          go_wp2_with fail
          refine Calls.mono cs ?_
          rintro e w7 ⟨v', rfl, ho, hb7⟩
          have HO7 := Lib.hid ho
          have HB7 := Lib.hid (HB6.out.trans (hb7.mono HB6.out.size))
          clear ho hb7 cs
          go_wp2_with fail
          refine bodyPost_ret (v := .tuple #[v', .bool true]) (by simp [results, Try.results45, go_sem]) rfl ?_
          have eo : o = some (putAll [] t.A) := by rw [← HP.out]; simp [pickW, HE.out, HN.out, HF.out]
          subst eo
          exact ⟨_, rfl, SR.owns HO7.out, HB7.out⟩
        · have HMM := Lib.hid hM
          have hM1 : ((M : Int) == 0) = false := by simp; omega
          have cf := sfirst E 1 ts w5 (.slice a n cap) (HV.out.go HB5.out)
          clear hM
          unfold FirstPost at cf
          cases hG : firstT E 1 ts with
          | none =>
            rw [hG] at cf
            simp only [Option.getD, Option.isSome, show TD0.cells = #[.int .i64 0, .int .i64 0, .slice none 0 0, .slice none 0 0] from rfl] at cf
            have HG := Lib.hid hG
            clear hG
            go_wp2_with fail
            refine Calls.mono cf ?_
            rintro e w6 ⟨rfl, hb6⟩
            have HB7 := Lib.hid (HB5.out.trans ((hb6.alloc hb6.size (.cells #[.int .i64 0, .int .i64 0, .slice none 0 0, .slice none 0 0] 83)).mono HB5.out.size))
            clear cf c0 c3 d3 hb6
            go_wp2_with fail
            refine bodyPost_ret (v := .tuple #[.slice none 0 0, .bool false]) (by simp [results, Try.results45, go_sem]) rfl ?_
            have eo : o = none := by rw [← HP.out]; simp [pickW, HE.out, HN.out, HF.out, HMM.out, HG.out]
            subst eo
            exact ⟨_, rfl, ⟨none, 0, rfl, Nat.le_refl _, by decide, rfl, .inl rfl⟩, HB7.out⟩
          | some m =>
            have hmm := firstT_mem hG
            obtain ⟨⟨bD, qD, fD⟩, ⟨bA, qA, fA⟩⟩ := TD.forms (HV.out.2 m hmm)
            have hbt := ((HV.out.2 m hmm).go HB5.out).1
            have hcl : m.cells = #[.int .i64 m.e, .int .i64 m.d, .slice bD m.D.length qD, .slice bA m.A.length qA] := by unfold TD.cells; rw [fD, fA]
            rw [hG] at cf
            simp only [Option.getD, Option.isSome, hcl] at cf
            rw [fD] at hbt
            have HM := Lib.hid (HK.out m hmm)
            have HBT := Lib.hid hbt
            have HG := Lib.hid hG
            clear hG hmm fD fA hbt hcl
            go_wp2_with fail
            refine Calls.mono cf ?_
            rintro e w6 ⟨rfl, hb6⟩
            have hz := heap_alloc_self w6 (.cells #[.int .i64 m.e, .int .i64 m.d, .slice bD m.D.length qD, .slice bA m.A.length qA] 83)
            have hb7 := hb6.alloc (hb6.size) (.cells #[.int .i64 m.e, .int .i64 m.d, .slice bD m.D.length qD, .slice bA m.A.length qA] 83)
            clear cf c0 c3 d3 hb6
            go_upto_region 14 with fail
            generalize w6.alloc (.cells #[.int .i64 m.e, .int .i64 m.d, .slice bD m.D.length qD, .slice bA m.A.length qA] 83) = w7 at *
            have hy7 := below_at hb7 (lt_heap HY.out) HY.out
            have d3 := scell hy7 3 (v := .slice aA t.A.length cA) rfl
            have e2 := scell hz 2 (v := .slice bD m.D.length qD) rfl
            have cr := imerge t.A m.D HO.out.A HM.out.D w7 _ _ (HAT5.out.below hb7) (HBT.out.below hb7)
            have HB7 := Lib.hid (HB5.out.trans (hb7.mono HB5.out.size))
            clear hb7 hz hy7
            go_wp2_with fail
            refine Calls.mono cr ?_
            rintro e w8 ⟨v', rfl, hs, hb8⟩
            have HS := Lib.hid hs
            have HB8 := Lib.hid (HB7.out.trans (hb8.mono HB7.out.size))
            clear hs hb8 cr d3 e2
            go_wp2_with fail
            refine bodyPost_ret (v := .tuple #[v', .bool true]) (by simp [results, Try.results45, go_sem]) rfl ?_
            have eo : o = some (putAll [] (t.A ++ m.D)) := by rw [← HP.out]; simp [pickW, HE.out, HN.out, HF.out, HMM.out, HG.out]
            subst eo
            exact ⟨_, rfl, SR.owns HS.out, HB8.out⟩
end Go.Proofs.Ytadejhlljdcocaa
/-
  A block's bytes, the same whenever they are asked for: a function of the text alone; and so is an item near another one.
-/

namespace Go.Proofs.Ytadejhlljdcocaa
open Go.RowKit
set_option linter.unusedVariables false
set_option linter.unusedSimpArgs false

def gB (s : ByteArray) (j : Nat) : UInt8 := s.data.toList.getD (j % s.size) 0
def blkL (s : ByteArray) : Nat → List UInt8
  | 0 => List.replicate 32 0
  | j + 1 => (blkL s j).set j (gB s j)
theorem blkL_length (s : ByteArray) (j : Nat) : (blkL s j).length = 32 := by
  induction j with
  | zero => simp [blkL]
  | succ j ih => simp [blkL, ih]
theorem block_next {w wr : World} {G j : Nat} {s : ByteArray} {c : UInt8} {t : TypeId} (hx : wr.heap[G]? = some (.cells (bCells (blkL s j)).toArray t)) (hb : Below G w wr) (hc : c = gB s j) :
    (wr.setCell ⟨G, j, none⟩ (.int .u8 c.toNat)).heap[G]? = some (.cells (bCells (blkL s (j + 1))).toArray t) ∧ Below G w (wr.setCell ⟨G, j, none⟩ (.int .u8 c.toNat)) :=
  ⟨by rw [heap_set_self hx, bCells_set, hc]; rfl, hb.setCell (Nat.le_refl _) _⟩
set_option maxHeartbeats 1600000 in
set_option maxRecDepth 100000 in
theorem block_some (s : ByteArray) (hs : s.size ≤ maxLen) (h0 : ¬ s.size = 0) (w : World) : Calls Try.prog 156 #[.string s] w fun e w' => e = .returned (.string ⟨(blkL s 32).toArray⟩) ∧ Below w.heap.size w w' := by
  unfold maxLen at hs
  have hmk : ∀ w, (Instr.makeSlice 237 (.int .i64 32) (.int .i64 32)).run Try.prog w = .ok (.slice (some ⟨w.heap.size, 0, none⟩) 32 32) (w.alloc (.cells (bCells (blkL s 0)).toArray 5)) := fun _ => by kernel_rfl
  have hx := heap_alloc_self w (.cells (bCells (blkL s 0)).toArray 5)
  have hb0 : Below w.heap.size w (w.alloc (.cells (bCells (blkL s 0)).toArray 5)) := (Below.refl _ _).alloc (Nat.le_refl _) _
  go_enter Try.func156, Try.ntmps156
  go_upto_region 2 with fail
  generalize w.alloc (.cells (bCells (blkL s 0)).toArray 5) = w1 at *
  have HX := Lib.hid hx
  have HB := Lib.hid hb0
  clear hx hb0 hmk
  obtain ⟨G, hG⟩ : ∃ G, w.heap.size = G := ⟨_, rfl⟩
  rw [hG] at HX HB ⊢
  have hp : 0 < (s.size : Int) := by omega
  go_wp2_with fail
  go_loopw [4] (fun i wr => ∃ j : Nat, j ≤ 32 ∧ i = .int .i64 j ∧ Hid (wr.heap[G]? = some (.cells (bCells (blkL s j)).toArray 5) ∧ Below G w wr)) (fun i _ => 32 - (intOf i).toNat)
  case atStart => exact ⟨0, by omega, rfl, Lib.hid ⟨HX.out, HB.out⟩⟩
  case round =>
    obtain ⟨j, hj, rfl, HR⟩ := hrel
    have hl := blkL_length s j
    obtain ⟨L, hL⟩ : ∃ L, blkL s j = L := ⟨_, rfl⟩
    have hx := HR.out.1
    rw [hL] at hx hl
    by_cases hlt : j < 32
    · have hc : wr.cell? ⟨G, j, none⟩ = some (.int .u8 (L.getD j 0).toNat) := by
        simp [World.cell?, hx, bCells, List.getD, hl, hlt]
      have hf : wr.frozen? ⟨G, j, none⟩ = false := by simp [World.frozen?, hx]
      have ht0 : 0 ≤ (j : Int) % (s.size : Int) := Int.emod_nonneg _ (by omega)
      have ht1 : (j : Int) % (s.size : Int) < (s.size : Int) := Int.emod_lt_of_pos _ hp
      have ht2 : j % s.size < s.size := Nat.mod_lt _ (by omega)
      clear hx
      go_wp2_with fail
      go_roundw
      case rel => exact ⟨j + 1, by omega, by go_num, Lib.hid (block_next HR.out.1 HR.out.2 (by unfold gB; rw [List.getD_eq_getElem?_getD, List.getElem?_eq_getElem (by simpa using ht2)]; rfl))⟩
      case measure => simp [intOf]; omega
    · have hcv := conv_block (P := Try.prog) (src := 237) (dst := 9) Try.underlying237 Try.underlying5 Try.underlying9 32 hl.symm hx
      obtain rfl : j = 32 := by omega
      clear hx
      have HL := Lib.hid hL
      clear hL
      go_wp2_with fail
      go_ret
      exact ⟨by rw [HL.out]; rfl, by rw [hG]; exact HR.out.2⟩
/-- a text's block -/
def blkD (s : ByteArray) : ByteArray := if s.size = 0 then zeroL 32 else ⟨(blkL s 32).toArray⟩
theorem blkD_size (s : ByteArray) : (blkD s).size = 32 := by
  unfold blkD
  split
  · exact zeroL_size 32
  · simpa [ByteArray.size] using blkL_length s 32
theorem block_det (s : ByteArray) (hs : s.size ≤ maxLen) (w : World) : Calls Try.prog 156 #[.string s] w fun e w' => e = .returned (.string (blkD s)) ∧ Below w.heap.size w w' := by
  by_cases h0 : s.size = 0
  · refine (block_any s w hs).mono ?_
    rintro e w' ⟨T, rfl, -, hT, hb⟩
    refine ⟨?_, hb⟩
    rw [hT (by have e : s = ByteArray.empty := by simpa using h0
               exact e.trans rfl), blkD, if_pos h0]
  · rw [blkD, if_neg h0]
    exact block_some s hs h0 w
/-- an item near another one -/
def nearD (s : ByteArray) (odd : Int) : ByteArray :=
  if bits .and .i64 odd 7 = 0 then ⟨#[]⟩ else if bits .and .i64 odd 7 = 1 then s.extract 0 (min (s.size : Int) 40).toNat else blkD (⟨#[49]⟩ ++ s.extract 0 (min (s.size : Int) 9).toNat)
theorem nearD_size (s : ByteArray) (odd : Int) : (nearD s odd).size ≤ 40 := by
  unfold nearD
  split
  · decide
  · split
    · rw [ByteArray.size_extract]; omega
    · rw [blkD_size]; omega
set_option maxRecDepth 100000 in
theorem near_det (v : Int) (s : ByteArray) (odd : Int) (hs : s.size ≤ maxLen) (w : World) :
    Calls Try.prog 115 #[.agg (itemA v s), .int .i64 odd] w fun e w' => e = .returned (.agg (itemA v (nearD s odd))) ∧ Below w.heap.size w w' := by
  unfold itemA nearD
  obtain ⟨t, ht⟩ : ∃ t, min (s.size : Int) 40 = t := ⟨_, rfl⟩
  have ht1 : t ≤ 40 := by omega
  have ht2 : t ≤ (s.size : Int) := by omega
  have ht0 : 0 ≤ t := by omega
  obtain ⟨q, hq⟩ : ∃ q, min (s.size : Int) 9 = q := ⟨_, rfl⟩
  have hq1 : q ≤ 9 := by omega
  have hq2 : q ≤ (s.size : Int) := by omega
  have hq0 : 0 ≤ q := by omega
  have cb := fun w => block_det (⟨#[49]⟩ ++ s.extract 0 q.toNat) (by
    have : (s.extract 0 q.toNat).size ≤ s.size := by rw [ByteArray.size_extract]; omega
    have h2 : (s.extract 0 q.toNat).size ≤ 9 := by rw [ByteArray.size_extract]; omega
    rw [ByteArray.size_append]; unfold maxLen; show 1 + _ ≤ _; omega) w
  obtain ⟨T, hT⟩ : ∃ T, blkD (⟨#[49]⟩ ++ s.extract 0 q.toNat) = T := ⟨_, rfl⟩
  rw [hT] at cb
  obtain ⟨m, hm⟩ : ∃ m, bits .and .i64 odd 7 = m := ⟨_, rfl⟩
  rw [ht, hq, hT, hm]
  obtain ⟨R, hR⟩ : ∃ R : ByteArray, (if m = 0 then ⟨#[]⟩ else if m = 1 then s.extract 0 t.toNat else T) = R := ⟨_, rfl⟩
  rw [hR]
  have HRR := Lib.hid hR
  clear hR
  have hx0 := heap_alloc_self (w.alloc (.cells #[.int .u64 v, .string s] 71)) (.cells #[.int .u64 0, .string ⟨#[]⟩] 71)
  have hy0 := Below.heap_alloc (w.alloc (.cells #[.int .u64 v, .string s] 71)) (.cells #[.int .u64 0, .string ⟨#[]⟩] 71) w.heap.size (by simp)
  rw [heap_alloc_self] at hy0
  have hb0 : Below w.heap.size w ((w.alloc (.cells #[.int .u64 v, .string s] 71)).alloc (.cells #[.int .u64 0, .string ⟨#[]⟩] 71)) := ((Below.refl _ _).alloc (Nat.le_refl _) _).alloc (by simp) _
  rw [show (w.alloc (.cells #[.int .u64 v, .string s] 71)).heap.size = w.heap.size + 1 by simp] at hx0
  clear hT
  go_enter Try.func115, Try.ntmps115
  go_upto_region 1 with fail
  generalize (w.alloc (.cells #[.int .u64 v, .string s] 71)).alloc (.cells #[.int .u64 0, .string ⟨#[]⟩] 71) = w0 at *
  obtain ⟨B, hB⟩ : ∃ B, w.heap.size = B := ⟨_, rfl⟩
  rw [hB] at hx0 hy0 hb0
  try rw [hB]
  have a0 : w0.cell? ⟨B, 0, none⟩ = some (.int .u64 v) := by simp [World.cell?, hy0]
  have r0 : w0.cell? ⟨B + 1, 0, none⟩ = some (.int .u64 0) := by simp [World.cell?, hx0]
  have r1 : w0.cell? ⟨B + 1, 1, none⟩ = some (.string ⟨#[]⟩) := by simp [World.cell?, hx0]
  have g0 : w0.frozen? ⟨B + 1, 0, none⟩ = false := by simp [World.frozen?, hx0]
  have g1 : w0.frozen? ⟨B + 1, 1, none⟩ = false := by simp [World.frozen?, hx0]
  have hx1 := heap_set_self (heap_set_self hx0 0 (.int .u64 v)) 1 (.string ⟨#[]⟩)
  have hy1 : ((w0.setCell ⟨B + 1, 0, none⟩ (.int .u64 v)).setCell ⟨B + 1, 1, none⟩ (.string ⟨#[]⟩)).heap[B]? = _ := (Below.heap_setCell _ _ _ _ (by show B ≠ B + 1; omega)).trans ((Below.heap_setCell _ _ _ _ (by show B ≠ B + 1; omega)).trans hy0)
  have hb1 : Below B w ((w0.setCell ⟨B + 1, 0, none⟩ (.int .u64 v)).setCell ⟨B + 1, 1, none⟩ (.string ⟨#[]⟩)) := (hb0.setCell (Nat.le_succ B) _).setCell (Nat.le_succ B) _
  clear hx0 hy0 hb0
  go_upto_region 2 with fail
  generalize (w0.setCell ⟨B + 1, 0, none⟩ (.int .u64 v)).setCell ⟨B + 1, 1, none⟩ (.string ⟨#[]⟩) = w1 at *
  clear a0 r0 r1 g0 g1
  have hx2 : w1.heap[B + 1]? = some (.cells #[.int .u64 v, .string ⟨#[]⟩] 71) := by simpa using hx1
  have a0 : w1.cell? ⟨B, 0, none⟩ = some (.int .u64 v) := by simp [World.cell?, hy1]
  have a1 : w1.cell? ⟨B, 1, none⟩ = some (.string s) := by simp [World.cell?, hy1]
  have r0 : w1.cell? ⟨B + 1, 0, none⟩ = some (.int .u64 v) := by simp [World.cell?, hx2]
  have r1 : w1.cell? ⟨B + 1, 1, none⟩ = some (.string ⟨#[]⟩) := by simp [World.cell?, hx2]
  have g0 : w1.frozen? ⟨B + 1, 0, none⟩ = false := by simp [World.frozen?, hx2]
  have g1 : w1.frozen? ⟨B + 1, 1, none⟩ = false := by simp [World.frozen?, hx2]
  have HX := Lib.hid hx2
  have HB1 := Lib.hid hb1
  clear hx1 hx2 hy1 hb1
  by_cases hm0 : m = 0
  · subst hm0
    obtain rfl : R = ⟨#[]⟩ := by rw [← HRR.out, if_pos rfl]
    go_wp2_with fail
    (try simp only [Exit.inBlock, Exit.then])
    obtain ⟨s0, s1⟩ := item_over HX.out v ⟨#[]⟩
    have FO := Lib.hid ((HB1.out.setCell (p := ⟨B + 1, 0, none⟩) (Nat.le_succ B) (.int .u64 v)).setCell (p := ⟨B + 1, 1, none⟩) (Nat.le_succ B) (.string ⟨#[]⟩))
    generalize (w1.setCell ⟨B + 1, 0, none⟩ (.int .u64 v)).setCell ⟨B + 1, 1, none⟩ (.string ⟨#[]⟩) = w5 at *
    refine bodyPost_ret (v := .agg #[.int .u64 v, .string ⟨#[]⟩]) (by simp [results, Try.results115, go_sem, s0, s1]) rfl ?_
    exact ⟨rfl, by first | exact FO.out | (rw [hB]; exact FO.out)⟩
  · by_cases hm1 : m = 1
    · subst hm1
      obtain ⟨E, hE⟩ : ∃ E : ByteArray, s.extract 0 t.toNat = E := ⟨_, rfl⟩
      obtain rfl : R = E := by rw [← HRR.out, if_neg hm0, if_pos rfl, hE]
      have hy : (w1.setCell ⟨B + 1, 1, none⟩ (.string R)).heap[B + 1]? = some (.cells #[.int .u64 v, .string R] 71) := by simpa using heap_set_self HX.out 1 (.string R)
      have hb := HB1.out.setCell (p := ⟨B + 1, 1, none⟩) (Nat.le_succ B) (.string R)
      have HY := Lib.hid hy
      have HBB := Lib.hid hb
      clear hy hb
      go_wp2_with fail
      (try simp only [Exit.inBlock, Exit.then])
      obtain ⟨s0, s1⟩ := item_over HY.out v R
      have FO := Lib.hid ((HBB.out.setCell (p := ⟨B + 1, 0, none⟩) (Nat.le_succ B) (.int .u64 v)).setCell (p := ⟨B + 1, 1, none⟩) (Nat.le_succ B) (.string R))
      generalize ((w1.setCell ⟨B + 1, 1, none⟩ (.string R)).setCell ⟨B + 1, 0, none⟩ (.int .u64 v)).setCell ⟨B + 1, 1, none⟩ (.string R) = w5 at *
      refine bodyPost_ret (v := .agg #[.int .u64 v, .string R]) (by simp [results, Try.results115, go_sem, s0, s1]) rfl ?_
      exact ⟨rfl, by first | exact FO.out | (rw [hB]; exact FO.out)⟩
    · obtain rfl : R = T := by rw [← HRR.out, if_neg hm0, if_neg hm1]
      have e0 : (m == 0) = false := by simpa using hm0
      have e1 : (m == 1) = false := by simpa using hm1
      go_wp2_with fail
      refine Calls.mono (cb _) ?_
      rintro e w2 ⟨rfl, hb2⟩
      have hx := below_at hb2 (lt_heap HX.out) HX.out
      clear r0 r1 g0 g1 a0 a1
      have r0 : w2.cell? ⟨B + 1, 0, none⟩ = some (.int .u64 v) := by simp [World.cell?, hx]
      have r1 : w2.cell? ⟨B + 1, 1, none⟩ = some (.string ⟨#[]⟩) := by simp [World.cell?, hx]
      have g0 : w2.frozen? ⟨B + 1, 0, none⟩ = false := by simp [World.frozen?, hx]
      have g1 : w2.frozen? ⟨B + 1, 1, none⟩ = false := by simp [World.frozen?, hx]
      have hy : (w2.setCell ⟨B + 1, 1, none⟩ (.string R)).heap[B + 1]? = some (.cells #[.int .u64 v, .string R] 71) := by simpa using heap_set_self hx 1 (.string R)
      have hb := (HB1.out.trans (hb2.mono (by have := HB1.out.size; omega))).setCell (p := ⟨B + 1, 1, none⟩) (Nat.le_succ B) (.string R)
      have HY := Lib.hid hy
      have HBB := Lib.hid hb
      clear hy hb hx hb2
      go_wp2_with fail
      (try simp only [Exit.inBlock, Exit.then])
      obtain ⟨s0, s1⟩ := item_over HY.out v R
      have FO := Lib.hid ((HBB.out.setCell (p := ⟨B + 1, 0, none⟩) (Nat.le_succ B) (.int .u64 v)).setCell (p := ⟨B + 1, 1, none⟩) (Nat.le_succ B) (.string R))
      generalize ((w2.setCell ⟨B + 1, 1, none⟩ (.string R)).setCell ⟨B + 1, 0, none⟩ (.int .u64 v)).setCell ⟨B + 1, 1, none⟩ (.string R) = w5 at *
      refine bodyPost_ret (v := .agg #[.int .u64 v, .string R]) (by simp [results, Try.results115, go_sem, s0, s1]) rfl ?_
      exact ⟨rfl, by first | exact FO.out | (rw [hB]; exact FO.out)⟩
end Go.Proofs.Ytadejhlljdcocaa
/-
  Masks of signed numbers: remainders.
-/



namespace Go.Proofs.Ytadejhlljdcocaa
open Go.RowKit
theorem mask_mod (x : Int) (k : Nat) (m : Int) (hm : (BitVec.ofInt 64 m).toNat = 2 ^ k - 1) (hk : k ≤ 62) : bits .and .i64 x m = x % ((2 ^ k : Nat) : Int) := by
  have h : (BitVec.ofInt 64 x &&& BitVec.ofInt 64 m).toNat = (x % ((2 ^ 64 : Nat) : Int)).toNat % 2 ^ k := by
    rw [BitVec.toNat_and, BitVec.toNat_ofInt, hm, Nat.and_two_pow_sub_one_eq_mod]
  have hp : 2 ^ k ≤ 2 ^ 62 := Nat.pow_le_pow_right (by omega) hk
  have hd : 2 ^ k ∣ 2 ^ 64 := Nat.pow_dvd_pow 2 (by omega)
  have h0 : 0 < 2 ^ k := Nat.two_pow_pos k
  have hx : (((x % ((2 ^ 64 : Nat) : Int)).toNat % 2 ^ k : Nat) : Int) = x % ((2 ^ k : Nat) : Int) := by
    rw [Int.natCast_emod, Int.toNat_of_nonneg (Int.emod_nonneg _ (by decide)), Int.emod_emod_of_dvd _ (Int.natCast_dvd_natCast.2 hd)]
  have hl := Nat.mod_lt ((x % ((2 ^ 64 : Nat) : Int)).toNat) h0
  show IntKind.i64.wrap ((BitVec.ofInt 64 x &&& BitVec.ofInt 64 m).toNat : Nat) = _
  rw [h, IntKind.wrap_i64, ← hx]
  omega
theorem mask3 (x : Int) : bits .and .i64 x 3 = x % 4 := mask_mod x 2 3 (by decide) (by decide)
theorem mask7 (x : Int) : bits .and .i64 x 7 = x % 8 := mask_mod x 3 7 (by decide) (by decide)
theorem mask15 (x : Int) : bits .and .i64 x 15 = x % 16 := mask_mod x 4 15 (by decide) (by decide)
theorem mask31 (x : Int) : bits .and .i64 x 31 = x % 32 := mask_mod x 5 31 (by decide) (by decide)
theorem mask20 (x : Int) : bits .and .i64 x 1048575 = x % 1048576 := mask_mod x 20 1048575 (by decide) (by decide)
end Go.Proofs.Ytadejhlljdcocaa
