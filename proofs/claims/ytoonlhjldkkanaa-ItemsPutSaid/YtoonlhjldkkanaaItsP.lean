/-
  items.Put, tarnref09.PutAll: the document's bytes of items.
-/
import Derived.Test.YtoonlhjldkkanaaScrub
namespace Go.Proofs.Ytoonlhjldkkanaa
open Go.RowKit
set_option linter.unusedVariables false
set_option linter.unusedSimpArgs false

/-- the bytes of an item of a block -/
def oneB (h : HI) : List UInt8 := putN h.b.toNat ++ putI h.v h.d.data.toList
def allB (l : List HI) : List UInt8 := l.flatMap oneB
theorem allB_next {l : List HI} {j : Nat} {x : HI} (h : l[j]? = some x) : allB (l.take (j + 1)) = allB (l.take j) ++ oneB x := by
  unfold allB
  rw [take_next h, List.flatMap_append]
  simp
theorem mB_size {x : HI} (h : mB x.v x.d = true) : x.d.size ≤ 32 := (Classical.choose_spec (may_cases x.v x.d)).2.2 h
theorem putI_len (v : Int) (l : List UInt8) (hv : U64 v) (hl : l.length ≤ 32) : (putI v l).length ≤ 50 := by
  have h1 := putN_length v.toNat (by unfold U64 at hv; omega)
  have h2 := putN_length l.length (by omega)
  unfold putI
  rw [List.length_append, List.length_append]
  omega
theorem data_len (d : ByteArray) : d.data.toList.length = d.size := Array.length_toList
theorem oneB_len {x : HI} (hg : Good x) (hm : mB x.v x.d = true) : (oneB x).length ≤ 59 := by
  have h1 := putN_length x.b.toNat (by have := hg.1; have := hg.2.1; omega)
  have h2 := putI_len x.v x.d.data.toList (wf_u64 hg.2.2.1) (by rw [data_len]; exact mB_size hm)
  unfold oneB
  rw [List.length_append]
  omega
theorem allB_len {l : List HI} (hs : ∀ x ∈ l, Good x) (hm : AllM l) : (allB l).length ≤ 59 * l.length := by
  induction l with
  | nil => simp [allB]
  | cons x t ih =>
    have h1 := oneB_len (hs x (by simp)) (hm x (by simp))
    have h2 := ih (fun y hy => hs y (by simp [hy])) (fun y hy => hm y (by simp [hy]))
    simp only [allB, List.flatMap_cons, List.length_append, List.length_cons] at h2 ⊢
    omega
theorem iput_d (x : HI) (hg : Good x) (hm : mB x.v x.d = true) (w : World) : Calls Try.prog 16 #[.agg (itemA x.v x.d)] w fun e w' => e = .returned (.string ⟨(putI x.v x.d.data.toList).toArray⟩) ∧ Below w.heap.size w w' := by
  have h := mB_t x.v x.d
  rw [hm] at h
  have := iput_yes x.v x.d.data.toList w (wf_u64 hg.2.2.1) (by rw [data_len]; exact mB_size hm) (by rw [← bytes_list]; exact h)
  rwa [← bytes_list] at this
theorem rput_d (x : HI) (hg : Good x) (hm : mB x.v x.d = true) (w : World) : Calls Try.prog 20 #[.agg (itemA x.v x.d)] w fun e w' => e = .returned (.string ⟨(putI x.v x.d.data.toList).toArray⟩) ∧ Below w.heap.size w w' := by
  have h := mB_t x.v x.d
  rw [hm] at h
  have := rput_yes x.v x.d.data.toList w (wf_u64 hg.2.2.1) (by rw [data_len]; exact mB_size hm) (by rw [← bytes_list]; exact h)
  rwa [← bytes_list] at this
set_option maxHeartbeats 1600000 in
set_option maxRecDepth 100000 in
theorem itsput (l : List HI) (hs : Srt l) (hm : AllM l) (w : World) (v : Value) (hv : SR w v 3 l.length (hCells l)) :
    Calls Try.prog 40 #[v] w fun e w' => e = .returned (.string ⟨(putN l.length ++ allB l).toArray⟩) ∧ Below w.heap.size w w' := by
  have hitem : ∀ (x : Int) (D : ByteArray), itemA x D = #[.int .u64 x, .string D] := fun _ _ => rfl
  obtain ⟨a, cap, rfl, hlc, hcm⟩ := hv.form
  have hl64 := hs.len
  have hu : U64 (l.length : Int) := ⟨by omega, by omega⟩
  have hwl : IntKind.u64.wrap (l.length : Int) = l.length := wrap_u64_in _ hu
  obtain ⟨i0, hi, hz0, hz1, hz2⟩ := info_parts info_u8
  have HU := Lib.hid hu
  have HV := Lib.hid hv
  have HS := Lib.hid hs
  have HM := Lib.hid hm
  unfold maxLen at hcm
  clear hu hv hs hm
  go_enter Try.func40, Try.ntmps40
  go_wp2_with (go_at_call 64; refine (put_any _ _ HU.out).mono ?_; rintro e w' ⟨rfl, hb⟩)
  obtain ⟨v1, w1, hr, hown, hb1⟩ := conv_bytes (P := Try.prog) w' (src := 9) (dst := 110) Try.underlying9 Try.underlying110 Try.underlying5 (putN l.length) (by have := putN_length l.length (by omega); unfold maxLen; omega)
  have hbw : Below w.heap.size w w1 := hb.trans (hb1.mono hb.size)
  have hown' : OwnB w1 w.heap.size 5 v1 (putN l.length) := hown.mono hb.size
  simp only [hr]
  clear hr hown hb1
  go_wp2_with fail
  go_loopw [3, 13] (fun o i wr => ∃ j : Nat, j ≤ l.length ∧ i = .int .i64 j ∧ Hid (OwnB wr w.heap.size 5 o (putN l.length ++ allB (l.take j)) ∧ Below w.heap.size w wr)) (fun _ i _ => l.length - (intOf i).toNat)
  case atStart => exact ⟨0, Nat.zero_le _, rfl, Lib.hid ⟨by simpa [allB] using hown', hbw⟩⟩
  case round =>
    obtain ⟨j, hj, rfl, HL⟩ := hrel
    by_cases hlt : j < l.length
    · obtain ⟨x, hx⟩ : ∃ x, l[j]? = some x := ⟨_, List.getElem?_eq_getElem hlt⟩
      obtain ⟨b, off, rfl, -, c0, c1, c2⟩ := sr_held (HV.out.below HL.out.2) j x hx
      have hxm := List.mem_of_getElem? hx
      have hg := HS.out.all x hxm
      have hmx := HM.out x hxm
      have hb1 := (Below.refl wr.heap.size wr).alloc (Nat.le_refl _) (.cells #[.int .i64 x.b, .int .u64 x.v, .string x.d] 58)
      have hy := heap_alloc_self wr (.cells #[.int .i64 x.b, .int .u64 x.v, .string x.d] 58)
      have HFN := Lib.hid (allB_next hx)
      have hal := allB_len (l := l.take j) (fun y hy => HS.out.all y (List.mem_of_mem_take hy)) (fun y hy => HM.out y (List.mem_of_mem_take hy))
      have htl : (l.take j).length ≤ j := by rw [List.length_take]; omega
      have hnl := putN_length l.length (by omega)
      have hpb := putN_length x.b.toNat (by have := hg.1; have := hg.2.1; omega)
      have hpi := putI_len x.v x.d.data.toList (wf_u64 hg.2.2.1) (by rw [data_len]; exact mB_size hmx)
      obtain ⟨cur, hcur⟩ : ∃ cur, putN l.length ++ allB (l.take j) = cur := ⟨_, rfl⟩
      have hcl : cur.length ≤ 5000 := by rw [← hcur, List.length_append]; omega
      have hll := HL.out
      rw [hcur] at hll
      have ho1 := hll.1.below hb1
      have HOR := Lib.hid hll.1
      have HB2 := Lib.hid (hll.2.trans (hb1.mono hll.2.size))
      have HO2 := Lib.hid ho1
      have HCUR := Lib.hid hcur
      have hmax : max x.b 0 = x.b := by have := hg.1; omega
      have hub : U64 x.b := by have := hg.1; have := hg.2.1; exact ⟨by omega, by omega⟩
      have hwb : IntKind.u64.wrap x.b = x.b := wrap_u64_in _ hub
      have cP := fun w => iput_d x hg hmx w
      simp only [hitem] at cP
      obtain ⟨P1, hP1⟩ : ∃ P1, putN x.b.toNat = P1 := ⟨_, rfl⟩
      obtain ⟨P2, hP2⟩ : ∃ P2, putI x.v x.d.data.toList = P2 := ⟨_, rfl⟩
      have cN := fun w => put_any x.b w hub
      rw [hP1] at cN hpb
      rw [hP2] at cP hpi
      have HFX : Hid (putN l.length ++ allB (l.take (j + 1)) = cur ++ P1 ++ P2) := Lib.hid (by rw [HFN.out, ← List.append_assoc, hcur]; unfold oneB; rw [hP1, hP2, List.append_assoc])
      clear hx hxm hg hmx hb1 hal htl hnl hcur hll ho1 hub hP1 hP2
      go_upto_region 5 with fail
      generalize wr.alloc (.cells #[.int .i64 x.b, .int .u64 x.v, .string x.d] 58) = w2 at *
      obtain ⟨d0, d1, d2⟩ := held_at hy
      have HY := Lib.hid hy
      clear c0 c1 c2 hy
      have hwsz := HB2.out.size
      go_wp2_with (first | (go_at_call 64; refine Calls.mono (cN _) ?_; rintro e w3 ⟨rfl, hb3⟩) | (at_builtin; refine wp_append_str _ rfl (.tmp 17) (.tmp 22) 110 9 rfl w.heap.size 5 i0 Try.underlying110 Try.underlying9 hi hz0 hz1 hz2 _ _ rfl (HO2.out.below hb3) _ rfl ?c1 ?c2 ?_))
      case c1 => omega
      case c2 => have := hb3.size; omega
      intro v4 w4 hown4 hgr4
      have hb4 : Below w.heap.size w w4 := (HB2.out.trans (hb3.mono hwsz)).grown hgr4 (by have := hb3.size; omega) (fun q hq => (HO2.out.lt q hq).1)
      have y4 : w4.heap[wr.heap.size]? = _ := (hgr4.block wr.heap.size (Nat.lt_of_lt_of_le (lt_heap HY.out) hb3.size) (fun e => by have := (HOR.out.lt _ e.symm).2; omega)).trans (below_at hb3 (lt_heap HY.out) HY.out)
      have HO4 := Lib.hid hown4
      have HB4 := Lib.hid hb4
      have hl4 : (cur ++ P1).length ≤ 5010 := by rw [List.length_append]; omega
      obtain ⟨C4, hC4⟩ : ∃ C4, cur ++ P1 = C4 := ⟨_, rfl⟩
      rw [hC4] at HO4 HFX hl4
      clear hown4 hgr4 hb4 hb3 d0 d1 d2 hC4
      obtain ⟨d0, d1, d2⟩ := held_at y4
      have hwsz4 := HB4.out.size
      clear y4
      go_wp2_with (first | (go_at_call 16; refine Calls.mono (cP _) ?_; rintro e w5 ⟨rfl, hb5⟩) | (at_builtin; refine wp_append_str _ rfl (.tmp 24) (.tmp 27) 110 9 rfl w.heap.size 5 i0 Try.underlying110 Try.underlying9 hi hz0 hz1 hz2 _ _ rfl (HO4.out.below hb5) _ rfl ?c1 ?c2 ?_))
      case c1 => omega
      case c2 => have := hb5.size; omega
      intro v6 w6 hown6 hgr6
      have HB6 := Lib.hid ((HB4.out.trans (hb5.mono hwsz4)).grown hgr6 (by have := hb5.size; omega) (fun q hq => (HO4.out.lt q hq).1))
      have HO6 := Lib.hid hown6
      clear hown6 hgr6 hb5
      go_wp2_with fail
      go_roundw
      case rel => exact ⟨j + 1, by omega, by go_num, Lib.hid ⟨by rw [HFX.out]; exact HO6.out, HB6.out⟩⟩
      case measure => simp [intOf]; omega
    · obtain rfl : j = l.length := by omega
      have hcv := OwnB.string (P := Try.prog) (src := 110) (dst := 9) Try.underlying110 Try.underlying5 Try.underlying9 HL.out.1
      rw [List.take_length] at hcv
      obtain ⟨R, hR⟩ : ∃ R, putN l.length ++ allB l = R := ⟨_, rfl⟩
      rw [hR] at hcv
      have HRR := Lib.hid hR
      clear hR
      go_wp2_with fail
      go_ret
      exact ⟨by rw [HRR.out]; rfl, HL.out.2⟩
set_option maxHeartbeats 1600000 in
set_option maxRecDepth 100000 in
theorem ritsput (l : List HI) (hs : Srt l) (hm : AllM l) (w : World) (v : Value) (hv : SR w v 3 l.length (hCells l)) :
    Calls Try.prog 42 #[v] w fun e w' => e = .returned (.string ⟨(putN l.length ++ allB l).toArray⟩) ∧ Below w.heap.size w w' := by
  have hitem : ∀ (x : Int) (D : ByteArray), itemA x D = #[.int .u64 x, .string D] := fun _ _ => rfl
  obtain ⟨a, cap, rfl, hlc, hcm⟩ := hv.form
  have hl64 := hs.len
  have hu : U64 (l.length : Int) := ⟨by omega, by omega⟩
  have hwl : IntKind.u64.wrap (l.length : Int) = l.length := wrap_u64_in _ hu
  have HU := Lib.hid hu
  have HV := Lib.hid hv
  have HS := Lib.hid hs
  have HM := Lib.hid hm
  unfold maxLen at hcm
  clear hu hv hs hm
  go_enter Try.func42, Try.ntmps42
  go_wp2_with (go_at_call 72; refine (refput_any _ _ HU.out).mono ?_; rintro e w1 ⟨rfl, hb⟩)
  have HB1 := Lib.hid hb
  clear hb
  go_loopw [3, 4] (fun o i wr => ∃ (j : Nat) (S : ByteArray), j ≤ l.length ∧ i = .int .i64 j ∧ o = .string S ∧ Hid (S = ⟨(putN l.length ++ allB (l.take j)).toArray⟩ ∧ Below w.heap.size w wr)) (fun _ i _ => l.length - (intOf i).toNat)
  case atStart => exact ⟨0, _, Nat.zero_le _, rfl, rfl, Lib.hid ⟨by simp [allB], HB1.out⟩⟩
  case round =>
    obtain ⟨j, S, hj, rfl, rfl, HL⟩ := hrel
    by_cases hlt : j < l.length
    · obtain ⟨x, hx⟩ : ∃ x, l[j]? = some x := ⟨_, List.getElem?_eq_getElem hlt⟩
      obtain ⟨b, off, rfl, hbl, c0, c1, c2⟩ := sr_held (HV.out.below HL.out.2) j x hx
      have hxm := List.mem_of_getElem? hx
      have hg := HS.out.all x hxm
      have hmx := HM.out x hxm
      have HFN := Lib.hid (allB_next hx)
      have hal := allB_len (l := l.take j) (fun y hy => HS.out.all y (List.mem_of_mem_take hy)) (fun y hy => HM.out y (List.mem_of_mem_take hy))
      have htl : (l.take j).length ≤ j := by rw [List.length_take]; omega
      have hnl := putN_length l.length (by omega)
      have hpb := putN_length x.b.toNat (by have := hg.1; have := hg.2.1; omega)
      have hpi := putI_len x.v x.d.data.toList (wf_u64 hg.2.2.1) (by rw [data_len]; exact mB_size hmx)
      have hSl : S.size ≤ 5000 := by rw [HL.out.1]; simp only [ByteArray.size, List.size_toArray, List.length_append]; omega
      have hx0 : 0 ≤ x.b := hg.1
      have hx64 : x.b < 64 := hg.2.1
      have hub : U64 x.b := ⟨by omega, by omega⟩
      have hwb : IntKind.u64.wrap x.b = x.b := wrap_u64_in _ hub
      have cP := fun w => rput_d x hg hmx w
      have cN := fun w => refput_any x.b w hub
      simp only [hitem] at cP
      obtain ⟨P1, hP1⟩ : ∃ P1 : ByteArray, ⟨(putN x.b.toNat).toArray⟩ = P1 := ⟨_, rfl⟩
      obtain ⟨P2, hP2⟩ : ∃ P2 : ByteArray, ⟨(putI x.v x.d.data.toList).toArray⟩ = P2 := ⟨_, rfl⟩
      have hp1 : P1.size ≤ 9 := by rw [← hP1]; simpa [ByteArray.size] using hpb
      have hp2 : P2.size ≤ 50 := by rw [← hP2]; simpa [ByteArray.size] using hpi
      rw [hP1] at cN
      rw [hP2] at cP
      have HFX : Hid (S ++ (P1 ++ P2) = ⟨(putN l.length ++ allB (l.take (j + 1))).toArray⟩) := Lib.hid (by rw [HFN.out, HL.out.1, ← hP1, ← hP2, str_append, str_append, List.append_assoc]; rfl)
      obtain ⟨N, hN⟩ : ∃ N, wr.heap.size = N := ⟨_, rfl⟩
      have HN := Lib.hid hN
      have hbN : b < N := by rw [← hN]; exact hbl
      have d1 : ∀ w', N ≤ w'.heap.size → Calls Try.prog 72 #[.int .u64 x.b] w' fun e w'' => e = .returned (.string P1) ∧ Stays N w' w'' := fun w' h => (cN w').mono fun e w'' q => ⟨q.1, stays_of h q.2⟩
      have d2 : ∀ w', N ≤ w'.heap.size → Calls Try.prog 20 #[.agg #[.int .u64 x.v, .string x.d]] w' fun e w'' => e = .returned (.string P2) ∧ Stays N w' w'' := fun w' h => (cP w').mono fun e w'' q => ⟨q.1, stays_of h q.2⟩
      have hlj : (j : Int) < l.length := by omega
      have h0j : (0 : Int) ≤ j := by omega
      clear hx hxm hg hmx hal htl hnl hub hP1 hP2 cN cP hN hbl hpb hpi
      go_upto_if 21 with fail
      go_cut [5] (fun n wx => n = .int .u64 x.b ∧ wx = wr)
      case first =>
        by_cases h0 : 0 < x.b
        · go_wp2_with fail
          go_meet
          exact ⟨rfl, rfl⟩
        · obtain h00 : x.b = 0 := by omega
          rw [h00] at c0
          clear h0
          go_wp2_with fail
          go_meet
          exact ⟨by rw [h00], rfl⟩
      case rest =>
        obtain ⟨rfl, rfl⟩ := hcut
        obtain ⟨W0, hW0⟩ : ∃ W0, W0 = wc := ⟨_, rfl⟩
        subst hW0
        have hA1 : P1.size + P2.size ≤ 9223372036854775807 := by omega
        have hA2 : S.size + (P1.size + P2.size) ≤ 9223372036854775807 := by omega
        have hA3 : ¬ (9223372036854775807 < P1.size + P2.size) := by omega
        have hA4 : ¬ (9223372036854775807 < S.size + (P1.size + P2.size)) := by omega
        go_upto_region 8 with fail
        go_region_held3 (fun w' => N ≤ w'.heap.size ∧ Below N W0 w' ∧ ∀ b o, b < N → w'.cell? ⟨b, o, none⟩ = W0.cell? ⟨b, o, none⟩) (first | assumption | exact keeps_start HN.out | exact keeps_next (by assumption) (by assumption)) (first | (go_at_call 72; refine Calls.mono (d1 _ (And.left (by assumption))) ?_; rintro e wz ⟨rfl, hz⟩) | (go_at_call 20; refine Calls.mono (d2 _ (And.left (by assumption))) ?_; rintro e wz ⟨rfl, hz⟩))
        all_goals
          rename_i hfin
          have HF := Lib.hid (HL.out.2.trans (hfin.2.1.mono (by rw [← HN.out]; exact HL.out.2.size)))
          clear hfin
          go_wp2_with fail
          go_roundw
          case rel => exact ⟨j + 1, _, by omega, by go_num, rfl, Lib.hid ⟨HFX.out, HF.out⟩⟩
          case measure => simp [intOf]; omega
    · obtain rfl : j = l.length := by omega
      go_wp2_with fail
      go_ret
      exact ⟨ret_str (by have := HL.out.1; rwa [List.take_length] at this), HL.out.2⟩
end Go.Proofs.Ytoonlhjldkkanaa
