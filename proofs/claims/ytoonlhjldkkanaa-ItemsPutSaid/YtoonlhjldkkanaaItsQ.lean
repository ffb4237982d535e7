/-
  items.Take of the document's bytes; ItemsPut's walk.
-/
import Derived.Test.YtoonlhjldkkanaaItsP
namespace Go.Proofs.Ytoonlhjldkkanaa
open Go.RowKit
set_option linter.unusedVariables false
set_option linter.unusedSimpArgs false

theorem sr_only {w w' : World} {b size n : Nat} {v : Value} {xs : List Value} (h : SR w v size n xs) (ho : Only b w w') (hne : ∀ k, v.ownBlock = some k → k ≠ b) : SR w' v size n xs := by
  obtain ⟨a, cap, rfl, h1, h2, h3, h4⟩ := h
  refine ⟨a, cap, rfl, h1, h2, h3, h4.imp id ?_⟩
  rintro ⟨g, off, rfl, hb, hc⟩
  refine ⟨g, off, rfl, Nat.lt_of_lt_of_le hb ho.size, fun j u hj => ?_⟩
  have := ho.block g hb (hne g rfl)
  have hcu := hc j u hj
  simp only [World.cell?] at hcu ⊢
  rw [this]
  exact hcu
theorem allB_drop {l : List HI} {j : Nat} {x : HI} (h : l[j]? = some x) : allB (l.drop j) = putN x.b.toNat ++ (putI x.v x.d.data.toList ++ allB (l.drop (j + 1))) := by
  have hj := (List.getElem?_eq_some_iff.1 h).1
  rw [List.drop_eq_getElem_cons hj]
  rw [List.getElem?_eq_getElem hj] at h
  rw [Option.some.inj h, allB, List.flatMap_cons, oneB, List.append_assoc]
  rfl
/-- the block of the last one that was taken -/
def lastB (l : List HI) (j : Nat) : Int := match j with | 0 => -1 | k + 1 => (l[k]!).b
theorem lastB_lt {l : List HI} (hs : Srt l) {j : Nat} {x : HI} (h : l[j]? = some x) : lastB l j < x.b := by
  have hj := (List.getElem?_eq_some_iff.1 h).1
  cases j with
  | zero => have := (hs.all x (List.mem_of_getElem? h)).1; show (-1 : Int) < x.b; omega
  | succ k =>
    show (l[k]!).b < x.b
    have hp := List.pairwise_iff_getElem.1 hs.pw k (k + 1) (by omega) hj (by omega)
    rw [List.getElem?_eq_getElem hj] at h
    rw [getElem!_pos l k (by omega), ← Option.some.inj h]
    exact hp
theorem lastB_next {l : List HI} {j : Nat} {x : HI} (h : l[j]? = some x) : lastB l (j + 1) = x.b := by
  have hj := (List.getElem?_eq_some_iff.1 h).1
  show (l[j]!).b = x.b
  rw [getElem!_pos l j hj]
  rw [List.getElem?_eq_getElem hj] at h
  rw [Option.some.inj h]
theorem owns_only {w w' : World} {b base n size : Nat} {e : TypeId} {v : Value} {xs : List Value} (h : w.ownsRow base e size v n xs) (ho : Only b w w') (hb : b < base) : w'.ownsRow base e size v n xs := owns_kept h ho hb
set_option maxHeartbeats 1600000 in
set_option maxRecDepth 100000 in
theorem itstake (l : List HI) (hs : Srt l) (hm : AllM l) (b : Nat) (w : World) (h : Src w b ⟨putN l.length ++ allB l, 0⟩) :
    Calls Try.prog 41 #[.pointer (some ⟨b, 0, none⟩)] w fun e w' => ∃ v', e = .returned v' ∧ SR w' v' 3 l.length (hCells l) ∧ Src w' b ⟨[], 0⟩ ∧ Only b w w' ∧ (∀ k, v'.ownBlock = some k → k ≠ b) := by
  have hitem : ∀ (x : Int) (D : ByteArray), itemA x D = #[.int .u64 x, .string D] := fun _ _ => rfl
  obtain ⟨i0, hi, hz0, hz1, hz2⟩ := info_parts info_held
  have hl64 := hs.len
  have cI := int_src b ⟨putN l.length ++ allB l, 0⟩ 64 w (by decide) h
  obtain ⟨n1, n2⟩ := num_put l.length (by omega) (allB l) 64 hl64
  rw [show ((64 : Int).toNat) = 64 from rfl, n1, n2] at cI
  have hbw := h.lt
  have HS := Lib.hid hs
  have HM := Lib.hid hm
  clear h hs hm n1 n2
  go_enter Try.func41, Try.ntmps41
  go_wp2_with fail
  refine Calls.mono cI ?_
  rintro e w1 ⟨rfl, hs1, ho1⟩
  have HS1 := Lib.hid hs1
  have HO1 := Lib.hid ho1
  clear hs1 ho1 cI
  go_wp2_with fail
  go_loopw [4, 5, 6] (fun o la i wr => ∃ j : Nat, j ≤ l.length ∧ i = .int .i64 j ∧ la = .int .i64 (lastB l j) ∧ Hid (wr.ownsRow w.heap.size 58 3 o (l.take j).length (hCells (l.take j)) ∧ Src wr b ⟨allB (l.drop j), 0⟩ ∧ Only b w wr)) (fun _ _ i _ => l.length - (intOf i).toNat)
  case atStart => exact ⟨0, Nat.zero_le _, rfl, rfl, Lib.hid ⟨World.ownsRow_nil _ _ _ _, by simpa using HS1.out, HO1.out⟩⟩
  case round =>
    obtain ⟨j, hj, rfl, rfl, HL⟩ := hrel
    have herr := HL.out.2.1.c1
    by_cases hlt : j < l.length
    · obtain ⟨x, hx⟩ : ∃ x, l[j]? = some x := ⟨_, List.getElem?_eq_getElem hlt⟩
      have hxm := List.mem_of_getElem? hx
      have hg := HS.out.all x hxm
      have hmx := HM.out x hxm
      have hu := wf_u64 hg.2.2.1
      have hsz := mB_size hmx
      have hmt := mB_t x.v x.d
      rw [hmx, bytes_list x.d] at hmt
      have hll := lastB_lt HS.out hx
      have hln := lastB_next hx
      have hsr := HL.out.2.1
      rw [allB_drop hx] at hsr
      have cI := int_src b _ 63 wr (by decide) hsr
      obtain ⟨n1, n2⟩ := num_put x.b.toNat (by have := hg.1; have := hg.2.1; omega) (putI x.v x.d.data.toList ++ allB (l.drop (j + 1))) 63 (by have := hg.1; have := hg.2.1; omega)
      rw [show ((63 : Int).toNat) = 63 from rfl, n1, n2, show ((x.b.toNat : Nat) : Int) = x.b by have := hg.1; omega] at cI
      have HN := Lib.hid (num_put x.v.toNat (by unfold U64 at hu; omega) (putN x.d.data.toList.length ++ x.d.data.toList ++ allB (l.drop (j + 1))) 18446744073709551615 (by unfold U64 at hu; omega))
      have HT := Lib.hid (text_put x.d.data.toList (allB (l.drop (j + 1))) 32 (by rw [data_len]; omega) (by rw [data_len]; omega))
      have hpi : putI x.v x.d.data.toList ++ allB (l.drop (j + 1)) = putN x.v.toNat ++ (putN x.d.data.toList.length ++ x.d.data.toList ++ allB (l.drop (j + 1))) := by unfold putI; simp only [List.append_assoc]
      have cT := fun w2 (h2 : Src w2 b ⟨putI x.v x.d.data.toList ++ allB (l.drop (j + 1)), 0⟩) => itake_any b ⟨putI x.v x.d.data.toList ++ allB (l.drop (j + 1)), 0⟩ ⟨allB (l.drop (j + 1)), 0⟩ x.v x.d.data.toList w2 (by rw [hpi, HN.out.1]; unfold U64 at hu; omega) (by rw [hpi, HN.out.2]; exact HT.out.1) (by rw [hpi, HN.out.2]; exact HT.out.2) hmt h2
      simp only [if_true, ← bytes_list, hitem] at cT
      have hl5 : (l.take j).length ≤ 64 := by rw [List.length_take]; omega
      have HXN := Lib.hid (take_next hx)
      have HLN := Lib.hid hln
      have HX := Lib.hid hx
      have hng : ¬ x.b ≤ lastB l j := by omega
      obtain ⟨la, hla⟩ : ∃ la, lastB l j = la := ⟨_, rfl⟩
      rw [hla] at hng
      try rw [hla]
      clear hx hxm hg hmx hu hsz hmt hll hln hsr n1 n2 hpi hla
      go_wp2_with fail
      refine Calls.mono (err_some b 0 _ herr) ?_
      rintro e w2 ⟨rfl, rfl⟩
      go_wp2_with fail
      refine Calls.mono cI ?_
      rintro e w3 ⟨rfl, hs3, ho3⟩
      have c3 := cT w3 hs3
      have HOW := Lib.hid (owns_only HL.out.1 ho3 hbw)
      have HON := Lib.hid (HL.out.2.2.trans ho3)
      clear hs3 ho3 cI cT herr
      go_wp2_with fail
      refine Calls.mono c3 ?_
      rintro e w4 ⟨rfl, hs4, ho4⟩
      have HOW4 := Lib.hid (owns_only HOW.out ho4 hbw)
      have HON4 := Lib.hid (HON.out.trans ho4)
      have HS4 := Lib.hid hs4
      have hw4 := HON4.out.size
      clear hs4 ho4 c3
      go_wp2_with (at_builtin; refine wp_app Try.underlying38 hi hz0 hz1 hz2 rfl (by decide) rfl (.tmp 27) (.tmp 32) rfl w.heap.size _ _ _ rfl (HOW4.out.alloc _) _ 1 (hCells [x]) rfl (good_lit x _) ?c1 ?c2 ?c3 ?c4 ?_)
      case c1 => exact hCells_one _
      case c2 => unfold maxLen; omega
      case c3 => omega
      case c4 => simp; omega
      intro v' w9 hown hgr
      have HO9 := Lib.hid (owns_app (L := l.take j) (by rw [List.length_take, Nat.min_eq_left (by omega)]; exact hown))
      have HON9 := Lib.hid ((HON4.out.alloc _).grown hgr (fun k hk => (HOW4.out.lt k hk).1))
      have hb9 : w9.heap[b]? = w4.heap[b]? := (hgr.block b (by have := HS4.out.lt; simp; omega) (fun e => by have := (HOW4.out.lt b e.symm).1; omega)).trans (Below.heap_alloc _ _ _ HS4.out.lt)
      have HS9 : Hid (Src w9 b ⟨allB (l.drop (j + 1)), 0⟩) := Lib.hid (hb9.trans HS4.out)
      clear hown hgr hb9
      go_wp2_with fail
      go_roundw
      case rel => exact ⟨j + 1, by omega, by go_num, by rw [HLN.out], Lib.hid ⟨by rw [HXN.out]; exact HO9.out, HS9.out, HON9.out⟩⟩
      case measure => simp [intOf]; omega
    · obtain rfl : j = l.length := by omega
      have HQ := HL.out
      rw [List.take_length, List.drop_length] at HQ
      have HQ' := Lib.hid HQ
      clear HQ
      go_wp2_with fail
      refine Calls.mono (err_some b 0 _ herr) ?_
      rintro e w2 ⟨rfl, rfl⟩
      go_wp2_with fail
      go_ret
      exact ⟨_, rfl, SR.owns HQ'.out.1, HQ'.out.2.1, HQ'.out.2.2, fun k e => by have := (HQ'.out.1.lt k e).1; omega⟩
set_option maxHeartbeats 3200000 in
set_option maxRecDepth 400000 in
theorem itemsput_law (a0 : Option Addr) (len0 cap0 : Nat) (w : World) (hf0 : Fits w (.slice heldSh) [.slice a0 len0 cap0]) :
    Calls Try.prog 6 #[.slice a0 len0 cap0] w fun e w' => e = .returned (.bool true) ∧ Below w.heap.size w w' := by
  obtain ⟨rs, rfl, hr, hro⟩ := fits_held hf0
  have c1 := near09 rs hro w _ hr
  have hxo := nearL_ok hro
  have HS := Lib.hid (srt_putAll Srt.nil hxo)
  have HM := Lib.hid (allM_putAll (l := []) (xs := nearL rs) (by intro x hx; cases hx))
  obtain ⟨X, hX⟩ : ∃ X, nearL rs = X := ⟨_, rfl⟩
  rw [hX] at c1 hxo HS HM
  have HXO := Lib.hid hxo
  obtain ⟨L, hL⟩ : ∃ L, putAll [] X = L := ⟨_, rfl⟩
  rw [hL] at HS HM
  have HL := Lib.hid hL
  clear hr hro hxo hX hL hf0
  go_enter Try.func6, Try.ntmps6
  go_wp2_with fail
  refine Calls.mono c1 ?_
  rintro e w1 ⟨v1, rfl, ho1, hb1⟩
  have c2 := rof X HXO.out w1 v1 (SR.owns ho1)
  rw [HL.out] at c2
  have HB1 := Lib.hid hb1
  clear ho1 hb1 c1
  go_wp2_with fail
  refine Calls.mono c2 ?_
  rintro e w2 ⟨v2, rfl, hm2, hn2, hb2⟩
  have HB2 := Lib.hid (HB1.out.trans (hb2.mono HB1.out.size))
  have HN2 := Lib.hid (fun b e => (hn2 b e).2)
  have R2 := Lib.hid hm2
  obtain ⟨p2, q2, rfl, -, -⟩ := hm2.form
  have c3 := itsput L HS.out HM.out w2 _ R2.out
  clear hm2 hn2 hb2 c2
  go_wp2_with fail
  refine Calls.mono c3 ?_
  rintro e w3 ⟨rfl, hb3⟩
  have R3 := Lib.hid (R2.out.below hb3)
  have HB3 := Lib.hid (HB2.out.trans (hb3.mono HB2.out.size))
  have HN3 := Lib.hid (fun b e => Nat.lt_of_lt_of_le (HN2.out b e) hb3.size)
  obtain ⟨S, hS⟩ : ∃ S : ByteArray, ⟨(putN L.length ++ allB L).toArray⟩ = S := ⟨_, rfl⟩
  rw [hS]
  have HSE := Lib.hid hS
  clear hb3 c3 hS
  go_wp2_with fail
  refine Calls.mono (from_any S _) ?_
  rintro e w4 ⟨rfl, rfl⟩
  have hsrc : Src (w3.alloc (.cells #[.string S, .int .i64 0] 96)) w3.heap.size ⟨putN L.length ++ allB L, 0⟩ := by
    unfold Src
    rw [heap_alloc_self, ← HSE.out]
  have hb4 := HB3.out.alloc HB3.out.size (.cells #[.string S, .int .i64 0] 96)
  have R4 := Lib.hid (R3.out.below ((Below.refl w3.heap.size w3).alloc (Nat.le_refl _) (.cells #[.string S, .int .i64 0] 96)))
  have c4 := itstake L HS.out HM.out w3.heap.size _ hsrc
  have HB4 := Lib.hid hb4
  clear hb4 hsrc
  go_wp2_with fail
  refine Calls.mono c4 ?_
  rintro e w5 ⟨v5, rfl, hr5, hs5, ho5, hnew5⟩
  obtain ⟨p5, q5, rfl, -, -⟩ := hr5.form
  have R5x := Lib.hid (sr_only R4.out ho5 (fun k e => by have := HN3.out k e; omega))
  have R5y := Lib.hid hr5
  have HS5 := Lib.hid hs5
  have HB5 := Lib.hid (HB4.out.trans (ho5.below HB3.out.size HB4.out.size))
  clear hr5 hs5 ho5 c4
  go_wp2_with fail
  refine Calls.mono (awake09 _) ?_
  rintro e w6 ⟨rfl, hb6⟩
  have R6x := Lib.hid (R5x.out.below hb6)
  have R6y := Lib.hid (R5y.out.below hb6)
  have HS6 := Lib.hid (HS5.out.below hb6)
  have HB6 := Lib.hid (HB5.out.trans (hb6.mono HB5.out.size))
  have c6 := ritsput L HS.out HM.out w6 _ R6x.out
  rw [HSE.out] at c6
  have hss : (S.toList == S.toList) = true := by simp
  clear hb6
  go_wp2_with fail
  refine Calls.mono c6 ?_
  rintro e w7 ⟨rfl, hb7⟩
  have R7x := Lib.hid (R6x.out.below hb7)
  have R7y := Lib.hid (R6y.out.below hb7)
  have HB7 := Lib.hid (HB6.out.trans (hb7.mono HB6.out.size))
  have c7 := end_src w3.heap.size ⟨[], 0⟩ w7 (HS6.out.below hb7)
  rw [show (RS.endS ⟨[], 0⟩).e = 0 from rfl] at c7
  have HNX := Lib.hid (fun k e => (by have := HN3.out k e; omega : k ≠ w3.heap.size))
  have HY7 := Lib.hid hnew5
  clear hb7 c6
  go_wp2_with fail
  refine Calls.mono c7 ?_
  rintro e w8 ⟨rfl, hs8, ho8⟩
  have R8x := Lib.hid (sr_only R7x.out ho8 HNX.out)
  have R8y := Lib.hid (sr_only R7y.out ho8 HY7.out)
  have HB8 := Lib.hid (HB7.out.trans (ho8.below HB3.out.size HB7.out.size))
  have c8 := rsame L w8 _ _ R8x.out R8y.out HS.out.all
  clear hs8 ho8 c7
  go_wp2_with fail
  refine Calls.mono c8 ?_
  rintro e w9 ⟨rfl, hb9⟩
  have HB9 := Lib.hid (HB8.out.trans (hb9.mono HB8.out.size))
  clear hb9 c8
  go_wp2_with fail
  go_ret
  exact ⟨rfl, HB9.out⟩
end Go.Proofs.Ytoonlhjldkkanaa
