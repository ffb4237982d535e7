/-
  DiskPlays.
-/
import Derived.Test.YtbmjkieikaapfaaPlay
import Derived.Test.YtbmjkieikaapfaaMask
namespace Go.Proofs.Ytbmjkieikaapfaa
open Go.RowKit
set_option linter.unusedVariables false
set_option linter.unusedSimpArgs false

abbrev ActSh : Sh := .two (.int .i64) (.two (.int .i64) (.two .str (.two (.int .u64) .unit)))
/-- an act of a slice that came in -/
theorem act_at {w wr : World} {a : Option Addr} {len cap : Nat} (h : Fits w (.slice ActSh) [.slice a len cap]) (hb : Below w.heap.size w wr) (i : Nat) (hi : i < len) : ∃ b off W M s u, a = some ⟨b, off, none⟩ ∧ wr.cell? ⟨b, off + i * 4, none⟩ = some (.int .i64 W) ∧ wr.cell? ⟨b, off + i * 4 + 1, none⟩ = some (.int .i64 M) ∧ wr.cell? ⟨b, off + i * 4 + 2, none⟩ = some (.string s) ∧ wr.cell? ⟨b, off + i * 4 + 3, none⟩ = some (.int .u64 (u : Nat)) ∧ s.size ≤ maxLen ∧ u < 18446744073709551616 ∧ (Lit.int .i64 M).wf = true := by
  obtain ⟨_, _, h0 | ⟨b, off, rfl, hlt, hc⟩⟩ := h.slice
  · omega
  · obtain ⟨ys, _, hy, x1, y1, e1, ⟨W, rfl, _⟩, x2, y2, rfl, ⟨M, rfl, hM⟩, x3, y3, rfl, ⟨s, rfl, hs⟩, x4, y4, rfl, ⟨z, rfl, hz⟩, rfl⟩ := hc i hi
    obtain ⟨u, rfl, hu⟩ : ∃ m : Nat, z = m ∧ m < 18446744073709551616 := by
      simp [Lit.wf, IntKind.min, IntKind.max, IntKind.signed, IntKind.bits] at hz
      exact ⟨z.toNat, by omega, by omega⟩
    subst e1
    have hk : ∀ j v, ([.int .i64 W] ++ ([.int .i64 M] ++ ([.string s] ++ ([.int .u64 (u : Nat)] ++ []))) : List Value)[j]? = some v → wr.cell? ⟨b, off + i * 4 + j, none⟩ = some v := fun j v hj => (hb.cell (p := ⟨b, off + i * 4 + j, none⟩) hlt).trans (hy j v hj)
    exact ⟨b, off, W, M, s, u, rfl, hk 0 _ rfl, hk 1 _ rfl, hk 2 _ rfl, hk 3 _ rfl, hs, hu, hM⟩
theorem zeroL_tail (k : Nat) : (zeroL 64).extract k 64 = zeroL (64 - k) := by
  have e : ((zeroL 64).extract k 64).data.toList = (zeroL (64 - k)).data.toList := by
    rw [Lib.extract_data]
    simp only [zeroL, List.drop_replicate, List.take_replicate, Nat.min_self]
  cases hA : (zeroL 64).extract k 64 with
  | mk a =>
    cases hB : zeroL (64 - k) with
    | mk b =>
      rw [hA, hB] at e
      simp only at e
      rw [Array.toList_inj.1 e]
theorem ext_whole (s : ByteArray) : s.extract 0 s.size = s := by simp
theorem endS_last (fate : Nat → Int) {k : Nat} {S : List ByteArray} {L : List (Nat × ByteArray)} (h : L.length ≤ k) : endS fate k S (L.drop k) = S := by
  rw [List.drop_eq_nil_of_le h]; rfl
theorem endS_next (fate : Nat → Int) {k : Nat} {S : List ByteArray} {L : List (Nat × ByteArray)} {x : Nat × ByteArray} (h : L[k]? = some x) : endS fate k S (L.drop k) = endS fate (k + 1) (fateS (fate k) S x) (L.drop (k + 1)) := by
  rw [drop_at L k x h]; rfl
theorem rdI_in (S : List ByteArray) (L : List (Nat × ByteArray)) (i : Nat) (h : i < S.length) : rdI S L i = curD S L i := by
  unfold rdI
  rw [if_pos ⟨by omega, by omega⟩]
  rfl
theorem rdI_more (S : List ByteArray) (L : List (Nat × ByteArray)) (k : Nat) (x : Nat × ByteArray) (M : Int) (hk : L[k]? = some x) (hx : x.1 < S.length) : rdI S (L.take (k + 1)) M = if (x.1 : Int) = M then x.2 else rdI S (L.take k) M := by
  obtain ⟨hl, rfl⟩ := List.getElem?_eq_some_iff.1 hk
  rw [List.take_succ_eq_append_getElem hl]
  unfold rdI
  by_cases h : 0 ≤ M ∧ M < S.length
  · rw [if_pos h, if_pos h, show L.take k ++ [L[k]] = L.take k ++ [(L[k].1, L[k].2)] from rfl, curD_snoc]
    by_cases e : (L[k].1 : Int) = M
    · rw [if_pos e, if_pos (by omega)]
    · rw [if_neg e, if_neg (by omega)]
  · rw [if_neg h, if_neg h, if_neg (by omega)]
set_option maxHeartbeats 60000000 in
set_option maxRecDepth 100000 in
theorem diskplays_law (sectors : Int) (a0 : Option Addr) (len0 cap0 : Nat) (w : World) (hsec : (Lit.int .i64 sectors).wf = true) (f0 : Fits w (.slice ActSh) [.slice a0 len0 cap0]) :
    Calls Try.prog 3 #[.int .i64 sectors, .slice a0 len0 cap0] w fun e w' => e = .returned (.bool true) ∧ Below w.heap.size w w' := by
  have hmask := mask7 sectors
  obtain ⟨K, hK⟩ : ∃ K : Nat, sectors % 8 = K := ⟨(sectors % 8).toNat, by omega⟩
  have hK8 : K < 8 := by omega
  rw [hK] at hmask
  obtain ⟨n, hn⟩ : ∃ n, K + 1 = n := ⟨_, rfl⟩
  have hn1 : (K : Int) + 1 = n := by omega
  have hn8 : n ≤ 8 := by omega
  have hn0 : 1 ≤ n := by omega
  have hl0 : len0 ≤ 9223372036854775807 := by have := f0.slice; unfold maxLen at this; omega
  have F0 := Lib.hid f0
  have ca := fun w => awake04 w
  have cs := fun w => sector0 w
  have cn := dnew n w hn0 (by omega)
  clear hsec hK hn f0
  go_enter Try.func3, Try.ntmps3
  go_wp2_with fail
  refine Calls.mono cn ?_
  rintro e w1 ⟨p, sv, rfl, hd, hb⟩
  have HD := Lib.hid hd
  have HB := Lib.hid hb
  obtain ⟨i0, hi, hz0, hz1, hz2⟩ := info_parts (show (Try.prog.info? 9).map (fun i => (i.zero, i.size, i.bytes)) = some (some (.string ⟨#[]⟩), 1, 16) by kernel_rfl)
  obtain ⟨w2, hmk, hown, hgr⟩ := run_make_full (P := Try.prog) (w := w1) w.heap.size 27 9 i0 _ 1 Try.underlying27 hi hz0 hz1 .i64 .i64 n (by rw [hz2]; omega) (by unfold maxLen; omega) hb.size
  rw [mades_s] at hown
  clear hd hb cn
  have hb2 : Below w1.heap.size w1 w2 := (Below.refl _ w1).grown hgr (Nat.le_refl _) (fun k e => by cases e)
  have hba : Below w2.heap.size w2 (w2.alloc (.cells #[] 36)) := (Below.refl _ _).alloc (Nat.le_refl _) _
  have hsz2 : w.heap.size ≤ w2.heap.size := Nat.le_trans HB.out.size hb2.size
  have hpr : PR (w2.alloc (.cells #[] 36)) w.heap.size p w1.heap.size n n sv (.slice none 0 0) (.slice (some ⟨w2.heap.size, 0, none⟩) 0 0) (freshS n) [] (List.replicate n ⟨#[]⟩) [] := by
    refine ⟨(HD.out.below hb2).below hba, hown.alloc _, World.ownsRow_lit (base := w.heap.size) w2 #[] 0 hsz2 (by decide) (by simp), fun e => ?_⟩
    have := (HD.out.sure.lt _ e).2
    omega
  have HP0 := Lib.hid hpr
  have HBA := Lib.hid ((HB.out.trans (hb2.mono HB.out.size)).trans (hba.mono hsz2))
  obtain ⟨g, hg⟩ : ∃ g, w1.heap.size = g := ⟨_, rfl⟩
  rw [hg] at hmk HP0
  try rw [hg]
  clear hown hgr hb2 hba hsz2 hpr
  go_upto_region 4 with fail
  generalize w2.alloc (.cells #[] 36) = w3 at *
  generalize w2.heap.size = g3 at *
  clear hmk hi hz0 hz1 hz2 hg HD HB
  go_wp2_with fail
  go_loopw [10] (fun iv wr => ∃ (k : Nat) (SM : List ByteArray), k ≤ n ∧ iv = .int .i64 k ∧ PR wr w.heap.size p g n n sv (.slice none 0 0) (.slice (some ⟨g3, 0, none⟩) 0 0) (freshS n) [] SM [] ∧ (∀ j, j < k → SM[j]? = some (zeroL 64)) ∧ Below w.heap.size w wr) (fun iv _ => n - (intOf iv).toNat)
  case atStart => exact ⟨0, _, by omega, rfl, HP0.out, fun j hj => by omega, HBA.out⟩
  case round => as_aux_lemma =>
    obtain ⟨k, SM, hk, rfl, hpr, hall, hbr⟩ := hrel
    have HP := Lib.hid hpr
    have HA := Lib.hid hall
    have HBr := Lib.hid hbr
    clear hpr hall hbr
    by_cases hlt : k < n
    · have c := cs wr
      go_wp2_with fail
      refine Calls.mono c ?_
      rintro e w4 ⟨rfl, hb⟩
      have HP4 := Lib.hid (HP.out.below hb)
      have HB4 := Lib.hid (HBr.out.trans (hb.mono HBr.out.size))
      have hx : ∃ x, SM[k]? = some x := ⟨_, List.getElem?_eq_getElem (by have := HP.out.len; omega)⟩
      obtain ⟨x, hx⟩ := hx
      have c0 := HP4.out.cell k x hx
      have c1 := HP4.out.frozen k
      obtain ⟨z1, z2⟩ := HP4.out.set k (zeroL 64)
      have Z1 := Lib.hid z1
      have Z2 := Lib.hid z2
      have HX := Lib.hid hx
      clear hb c hx z1 z2
      go_wp2_with fail
      go_roundw
      case rel => exact ⟨k + 1, _, by omega, by go_num, Z1.out, fun j hj => by
        rw [List.getElem?_set]
        split
        · rw [if_pos (by have := HP.out.len; omega)]
        · exact HA.out j (by omega), HB4.out.trans Z2.out⟩
      case measure => simp [intOf]; omega
    · have hkn : n = k := by omega
      subst hkn
      have hSM : SM = freshS n := fresh_of HP.out.len HA.out
      subst hSM
      have cse := fun w' (hb : Below wr.heap.size wr w') => dsectors w' _ _ _ _ _ _ (HP.out.dsk.below hb)
      simp only [freshS_length] at cse
      go_wp2_with fail
      refine Calls.mono (ca _) ?_
      rintro e w4 ⟨rfl, hb⟩
      have c := cse w4 hb
      have HP5 := Lib.hid (HP.out.below hb)
      have HB5 := Lib.hid (HBr.out.trans (hb.mono HBr.out.size))
      clear hb cse HA HP0 HBA HP
      go_wp2_with fail
      refine Calls.mono c ?_
      rintro e w5 ⟨rfl, rfl⟩
      clear c
      go_wp2_with fail
      go_loopw [9, 11] (fun rv iv wr => ∃ (i : Nat) (S : List ByteArray) (L : List (Nat × ByteArray)) (lv : Value), i ≤ len0 ∧ i ≤ 60 ∧ iv = .int .i64 i ∧ PR wr w.heap.size p g n n sv lv rv S L S L ∧ L.length ≤ i ∧ Below w.heap.size w wr) (fun _ iv _ => 60 - (intOf iv).toNat)
      case atStart => exact ⟨0, _, _, _, by omega, by omega, rfl, HP5.out, by simp, HB5.out⟩
      case round => as_aux_lemma =>
        obtain ⟨i, S, L, lv, hi0, hi60, rfl, hpr, hLi, hbr⟩ := hrel
        have HP := Lib.hid hpr
        have HBr := Lib.hid hbr
        clear hpr hbr HP5 HB5
        by_cases hc : i < len0 ∧ i < 60
        · obtain ⟨hc1, hc2⟩ := hc
          obtain ⟨bb, off, W, M, s, u, rfl, e0, e1, e2, e3, hs, hu, hM⟩ := act_at F0.out HBr.out i hc1
          obtain ⟨rc, rcap, rfl, hrl, hrm, hrc⟩ := HP.out.rform
          have HRC := Lib.hid hrc
          unfold maxLen at hs
          have hx := heap_alloc_self wr (.cells #[.int .i64 W, .int .i64 M, .string s, .int .u64 u] 34)
          have hba : Below wr.heap.size wr (wr.alloc (.cells #[.int .i64 W, .int .i64 M, .string s, .int .u64 u] 34)) := (Below.refl _ _).alloc (Nat.le_refl _) _
          clear hrc
          have hMb := wf_le hM
          have hM1 := hMb.1
          have hM2 := hMb.2
          obtain ⟨I, hI⟩ : ∃ I : Bool, I = decide (0 ≤ M ∧ M < n) := ⟨_, rfl⟩
          have HI := Lib.hid hI
          have hWm := mask7 W
          obtain ⟨V, hV⟩ : ∃ V, W % 8 = V := ⟨_, rfl⟩
          rw [hV] at hWm
          have hV0 : 0 ≤ V := by omega
          have hV7 : V < 8 := by omega
          have HPa := Lib.hid (HP.out.below hba)
          clear hM hMb hI hV
          go_upto_region 14 with fail
          generalize wr.alloc (.cells #[.int .i64 W, .int .i64 M, .string s, .int .u64 u] 34) = W1 at *
          obtain ⟨q, hq⟩ : ∃ q, wr.heap.size = q := ⟨_, rfl⟩
          have hwq : w.heap.size ≤ q := by rw [← hq]; exact HBr.out.size
          rw [hq] at hx hba
          try rw [hq]
          have HQ := Lib.hid hq
          have HX := Lib.hid hx
          have HB1 := Lib.hid (HBr.out.trans (hba.mono hwq))
          have d0 : W1.cell? ⟨q, 0, none⟩ = some (.int .i64 W) := by simp [World.cell?, hx]
          have d1 : W1.cell? ⟨q, 1, none⟩ = some (.int .i64 M) := by simp [World.cell?, hx]
          have d2 : W1.cell? ⟨q, 2, none⟩ = some (.string s) := by simp [World.cell?, hx]
          have d3 : W1.cell? ⟨q, 3, none⟩ = some (.int .u64 u) := by simp [World.cell?, hx]
          clear e0 e1 e2 e3 hx hba hq
          go_cut [13] (fun b wx => b = .bool I ∧ wx = W1)
          case first => as_aux_lemma =>
            by_cases h1 : 0 ≤ M
            · by_cases h2 : M < n
              · go_wp2_with fail
                go_meet
                exact ⟨by rw [HI.out]; simp [h1, h2], rfl⟩
              · go_wp2_with fail
                go_meet
                exact ⟨by rw [HI.out]; first | (simp [h1, h2]; done) | (simp [h1, h2]; omega), rfl⟩
            · go_wp2_with fail
              go_meet
              exact ⟨by rw [HI.out]; first | (simp [h1]; done) | (simp [h1]; omega), rfl⟩
          case rest => as_aux_lemma =>
            obtain ⟨rfl, hcw⟩ := hcut
            subst hcw
            obtain ⟨W2, hW2⟩ : ∃ W0, W0 = wc := ⟨_, rfl⟩
            subst hW2
            go_upto_block 4 with fail
            go_cut [9] (fun rv wx => ∃ (S' : List ByteArray) (L' : List (Nat × ByteArray)) (lv' : Value), PR wx w.heap.size p g n n sv lv' rv S' L' S' L' ∧ L'.length ≤ i + 1 ∧ Below w.heap.size w wx ∧ wx.heap[q]? = some (.cells #[.int .i64 W, .int .i64 M, .string s, .int .u64 u] 34))
            case first => as_aux_lemma =>
              have HAT := Lib.hid (show ∀ x ∈ L, x.1 < n ∧ x.2.size = 64 from fun x hx => by
                have h := HPa.out.dsk.ats x hx
                have h2 := HPa.out.len
                exact ⟨by omega, h.2⟩)
              have hoq := HPa.out.other HX.out (by decide) (by decide) (by decide) (by decide)
              have HOQ := Lib.hid hoq
              clear hoq
              have hVc : V = 4 ∨ V = 5 ∨ V = 6 ∨ V = 7 ∨ V < 4 := by omega
              rcases hVc with rfl | rfl | rfl | rfl | hV4
              · as_aux_lemma =>
                have cd := dsync W2 _ p sv lv S L HPa.out.dsk (by omega)
                go_wp2_with fail
                refine Calls.mono cd ?_
                rintro e w5 ⟨rfl, h5, k5⟩
                obtain ⟨SF, hSF⟩ : ∃ SF, syncS S L = SF := ⟨_, rfl⟩
                have HSF := Lib.hid (show endS (fun _ => 1) 0 S (L.drop 0) = SF from hSF)
                have hq5 : w5.heap[q]? = _ := (k5.block q (lt_heap HX.out) HOQ.out.1 HOQ.out.2.1 HOQ.out.2.2.1).trans HX.out
                have hp5 := HPa.out.disk h5 k5
                rw [hSF] at hp5
                have HP5 := Lib.hid (And.intro hp5 (And.intro HSF.out (And.intro (HB1.out.trans k5.below) hq5)))
                clear cd h5 k5 hSF hq5 hp5 HRC d0 d1 d2 d3
                go_wp2_with fail
                go_loopw [14] (fun kv wx => ∃ (k : Nat) (SM : List ByteArray), k ≤ L.length ∧ kv = .int .i64 k ∧ Hid (PR wx w.heap.size p g n n sv (.slice none 0 0) (.slice rc L.length rcap) SF [] SM L ∧ endS (fun _ => 1) k SM (L.drop k) = SF ∧ Below w.heap.size w wx ∧ wx.heap[q]? = some (.cells #[.int .i64 W, .int .i64 M, .string s, .int .u64 u] 34))) (fun kv _ => L.length - (intOf kv).toNat)
                case atStart => exact ⟨0, S, Nat.zero_le _, rfl, HP5⟩
                case round =>
                  clear HP5
                  obtain ⟨k, SM, hk, rfl, HR⟩ := hrel
                  by_cases hlt : k < L.length
                  · obtain ⟨x, hx⟩ : ∃ x, L[k]? = some x := ⟨_, List.getElem?_eq_getElem hlt⟩
                    obtain ⟨a', c', he, -, -, hc⟩ := HR.out.1.rform
                    obtain ⟨b3, hb3, r0, r1⟩ := hc k x hx
                    injection he with z1 _ z3
                    subst z1 z3 hb3
                    have hat := HAT.out x (List.mem_of_getElem? hx)
                    have hlenM := HR.out.1.len
                    obtain ⟨y, hy⟩ : ∃ y, SM[x.1]? = some y := ⟨_, List.getElem?_eq_getElem (by omega)⟩
                    have c0 := HR.out.1.cell x.1 y hy
                    have c1 := HR.out.1.frozen x.1
                    have hst := HR.out.1.set x.1 x.2
                    have hbd := below_drew' (Below.refl (wr.setCell ⟨g, x.1, none⟩ (.string x.2)).heap.size (wr.setCell ⟨g, x.1, none⟩ (.string x.2)))
                    have HST := Lib.hid (And.intro (hst.1.below hbd) (And.intro (show endS (fun _ => 1) (k + 1) (SM.set x.1 x.2) (L.drop (k + 1)) = SF by rw [← HR.out.2.1, endS_next _ hx]; rfl) (And.intro (below_drew' (HR.out.2.2.1.trans hst.2)) ((heap_setCell_other wr ⟨g, x.1, none⟩ q (.string x.2) HOQ.out.2.2.2.1).trans HR.out.2.2.2))))
                    obtain ⟨xa, xd⟩ := x
                    simp only at r0 r1 c0 c1 hat HST
                    have ha1 : (xa : Int) < n := by omega
                    clear hx hc hy hst hat hlenM hbd
                    go_upto_region 27 with fail
                    go_still_tail 12, (by kernel_rfl)
                    change wpList _ _ _ _ _ wr.drew
                    go_wp2_with fail
                    go_roundw
                    case rel => exact ⟨k + 1, _, by omega, by go_num, HST⟩
                    case measure => simp [intOf]; omega
                  · obtain rfl : k = L.length := by omega
                    have hsm : SM = SF := by rw [← HR.out.2.1, endS_last _ (Nat.le_refl _)]
                    subst hsm
                    go_wp2_with fail
                    go_meet
                    exact ⟨_, [], _, HR.out.1.nil, Nat.zero_le _, HR.out.2.2.1, HR.out.2.2.2⟩
              · as_aux_lemma =>
                have cd := dcrash u hu W2 _ p sv lv S L HPa.out.dsk (by omega)
                go_wp2_with fail
                refine Calls.mono cd ?_
                rintro e w5 ⟨rfl, h5, k5⟩
                obtain ⟨SF, hSF⟩ : ∃ SF, crashS u S L = SF := ⟨_, rfl⟩
                have HSF := Lib.hid (show endS (fun j => (fateU u j : Nat)) 0 S (L.drop 0) = SF from hSF)
                have hq5 : w5.heap[q]? = _ := (k5.block q (lt_heap HX.out) HOQ.out.1 HOQ.out.2.1 HOQ.out.2.2.1).trans HX.out
                have hp5 := HPa.out.disk h5 k5
                rw [hSF] at hp5
                have HP5 := Lib.hid (And.intro hp5 (And.intro HSF.out (And.intro (HB1.out.trans k5.below) (And.intro hq5 HPa.out.dsk.sizes))))
                clear cd h5 k5 hSF hq5 hp5 HRC d0 d1 d2 d3
                go_wp2_with fail
                go_loopw [15] (fun kv wx => ∃ (k : Nat) (SM : List ByteArray), k ≤ L.length ∧ kv = .int .i64 k ∧ Hid (PR wx w.heap.size p g n n sv (.slice none 0 0) (.slice rc L.length rcap) SF [] SM L ∧ endS (fun j => (fateU u j : Nat)) k SM (L.drop k) = SF ∧ Below w.heap.size w wx ∧ wx.heap[q]? = some (.cells #[.int .i64 W, .int .i64 M, .string s, .int .u64 u] 34) ∧ ∀ z ∈ SM, z.size = 64)) (fun kv _ => L.length - (intOf kv).toNat)
                case atStart => exact ⟨0, S, Nat.zero_le _, rfl, HP5⟩
                case round =>
                  clear HP5
                  obtain ⟨k, SM, hk, rfl, HR⟩ := hrel
                  by_cases hlt : k < L.length
                  · obtain ⟨x, hx⟩ : ∃ x, L[k]? = some x := ⟨_, List.getElem?_eq_getElem hlt⟩
                    obtain ⟨a', c', he, -, -, hc⟩ := HR.out.1.rform
                    obtain ⟨b3, hb3, r0, r1⟩ := hc k x hx
                    injection he with z1 _ z3
                    subst z1 z3 hb3
                    have hat := HAT.out x (List.mem_of_getElem? hx)
                    have hlenM := HR.out.1.len
                    obtain ⟨y, hy⟩ : ∃ y, SM[x.1]? = some y := ⟨_, List.getElem?_eq_getElem (by omega)⟩
                    have c0 := HR.out.1.cell x.1 y hy
                    have hys := HR.out.2.2.2.2 y (List.mem_of_getElem? hy)
                    have hgd : SM.getD x.1 ⟨#[]⟩ = y := by rw [List.getD_eq_getElem?_getD, hy]; rfl
                    have HG := Lib.hid hgd
                    have HE := Lib.hid (endS_next (fun j => (fateU u j : Nat)) (S := SM) hx)
                    have hsz2 := fun f : Int => fateS_sizes f SM x HR.out.2.2.2.2 ⟨by omega, hat.2⟩
                    have HSZ := Lib.hid hsz2
                    obtain ⟨xa, xd⟩ := x
                    simp only at r0 r1 c0 hat HG HE HSZ
                    have hxs := hat.2
                    have ha1 : (xa : Int) < n := by omega
                    have hk32 : (k : Int) % 32 < 32 := by omega
                    have hk0 : 0 ≤ (k : Int) % 32 := by omega
                    have hxq := HR.out.2.2.2.1
                    have d3 : wr.cell? ⟨q, 3, none⟩ = some (.int .u64 u) := by simp [World.cell?, hxq]
                    clear hx hc hy hat hlenM hgd hsz2 hxq
                    go_upto_region 34 with fail
                    go_quiet (fail)
                    have hbq := below_drewN' (Below.refl wr.heap.size wr) nq
                    have HR2 := Lib.hid (And.intro (HR.out.1.below hbq) (And.intro (below_drewN' HR.out.2.2.1 nq) (show (wr.drewN nq).heap[q]? = _ from HR.out.2.2.2.1)))
                    have d3' : (wr.drewN nq).cell? ⟨q, 3, none⟩ = some (.int .u64 u) := d3
                    have r0' : (wr.drewN nq).cell? ⟨b3, k * 2, none⟩ = some (.int .i64 xa) := r0
                    have c0' : (wr.drewN nq).cell? ⟨g, xa, none⟩ = some (.string y) := c0
                    clear d3 r0 r1 c0 hbq
                    generalize wr.drewN nq = w6 at *
                    obtain ⟨f, hf⟩ : ∃ f, fateU u k = f := ⟨_, rfl⟩
                    have HF := Lib.hid hf
                    have hf4 : f < 4 := by rw [← hf]; unfold fateU; omega
                    go_upto_region 35 with fail
                    go_cut [180] (fun v wx => v = .int .u64 (f : Nat) ∧ wx = w6)
                    case first =>
                      go_wp2_with fail
                      go_meet
                      refine ⟨?_, rfl⟩
                      rw [← HF.out]
                      unfold fateU
                      with_reducible congr 1
                      simp only [Int.natCast_ediv, Int.natCast_emod, Int.natCast_pow, Int.natCast_mul, Int.cast_ofNat_Int]
                      exact Int.tmod_eq_emod_of_nonneg (Int.ediv_nonneg (by omega) (Int.pow_nonneg (by decide)))
                    case rest =>
                      obtain ⟨rfl, hwc⟩ := hcut
                      subst hwc
                      obtain ⟨W6, hW6⟩ : ∃ W, W = wc := ⟨_, rfl⟩
                      subst hW6
                      rw [hf] at HE
                      have c1 := HR2.out.1.frozen xa
                      have key : ∀ v : ByteArray, fateS ((f : Nat) : Int) SM (xa, xd) = SM.set xa v → Hid (PR (W6.setCell ⟨g, xa, none⟩ (.string v)).drew w.heap.size p g n n sv (.slice none 0 0) (.slice (some ⟨b3, 0, none⟩) L.length rcap) SF [] (SM.set xa v) L ∧ endS (fun j => (fateU u j : Nat)) (k + 1) (SM.set xa v) (L.drop (k + 1)) = SF ∧ Below w.heap.size w (W6.setCell ⟨g, xa, none⟩ (.string v)).drew ∧ (W6.setCell ⟨g, xa, none⟩ (.string v)).drew.heap[q]? = some (.cells #[.int .i64 W, .int .i64 M, .string s, .int .u64 u] 34) ∧ ∀ z ∈ SM.set xa v, z.size = 64) := fun v hv => by
                        have hst := HR2.out.1.set xa v
                        refine Lib.hid ⟨hst.1.below (below_drew' (Below.refl _ _)), ?_, below_drew' (HR2.out.2.1.trans hst.2), (heap_setCell_other W6 ⟨g, xa, none⟩ q (.string v) HOQ.out.2.2.2.1).trans HR2.out.2.2, ?_⟩
                        · rw [← HR.out.2.1, HE.out, hv]
                        · rw [← hv]; exact HSZ.out _
                      have key2 : ∀ v : ByteArray, fateS ((f : Nat) : Int) SM (xa, xd) = SM.set xa v → Hid (PR (W6.setCell ⟨g, xa, none⟩ (.string v)) w.heap.size p g n n sv (.slice none 0 0) (.slice (some ⟨b3, 0, none⟩) L.length rcap) SF [] (SM.set xa v) L ∧ endS (fun j => (fateU u j : Nat)) (k + 1) (SM.set xa v) (L.drop (k + 1)) = SF ∧ Below w.heap.size w (W6.setCell ⟨g, xa, none⟩ (.string v)) ∧ (W6.setCell ⟨g, xa, none⟩ (.string v)).heap[q]? = some (.cells #[.int .i64 W, .int .i64 M, .string s, .int .u64 u] 34) ∧ ∀ z ∈ SM.set xa v, z.size = 64) := fun v hv => by
                        have hst := HR2.out.1.set xa v
                        refine Lib.hid ⟨hst.1, ?_, HR2.out.2.1.trans hst.2, (heap_setCell_other W6 ⟨g, xa, none⟩ q (.string v) HOQ.out.2.2.2.1).trans HR2.out.2.2, ?_⟩
                        · rw [← HR.out.2.1, HE.out, hv]
                        · rw [← hv]; exact HSZ.out _
                      have hys2 : y.size = 64 := hys
                      have hnb1 : ¬ 9223372036854775807 < 32 + 32 := by decide
                      clear hf d3'
                      have hfc : f = 0 ∨ f = 1 ∨ f = 2 ∨ f = 3 := by omega
                      rcases hfc with rfl | rfl | rfl | rfl
                      · have HN := Lib.hid (show PR W6 w.heap.size p g n n sv (.slice none 0 0) (.slice (some ⟨b3, 0, none⟩) L.length rcap) SF [] SM L ∧ endS (fun j => (fateU u j : Nat)) (k + 1) SM (L.drop (k + 1)) = SF ∧ Below w.heap.size w W6 ∧ W6.heap[q]? = some (.cells #[.int .i64 W, .int .i64 M, .string s, .int .u64 u] 34) ∧ ∀ z ∈ SM, z.size = 64 from ⟨HR2.out.1, by rw [← HR.out.2.1, HE.out]; rfl, HR2.out.2.1, HR2.out.2.2, HR.out.2.2.2.2⟩)
                        clear key key2
                        go_wp2_with fail
                        go_roundw
                        case rel => exact ⟨k + 1, _, by omega, by go_num, HN⟩
                        case measure => simp [intOf]; omega
                      · have HN := key2 xd (by simp [fateS])
                        clear key key2
                        go_wp2_with fail
                        go_roundw
                        case rel => exact ⟨k + 1, _, by omega, by go_num, HN⟩
                        case measure => simp [intOf]; omega
                      · have HN := key (xd.extract 0 32 ++ y.extract 32 64) (by unfold fateS frontS backS; simp only [HG.out, hys]; rfl)
                        clear key key2
                        go_upto_region 39 with fail
                        go_still_tail 12, (by kernel_rfl)
                        change wpList _ _ _ _ _ W6.drew
                        go_wp2_with fail
                        go_roundw
                        case rel => exact ⟨k + 1, _, by omega, by go_num, HN⟩
                        case measure => simp [intOf]; omega
                      · have HN := key (y.extract 0 32 ++ xd.extract 32 64) (by unfold fateS frontS backS; simp only [HG.out, hxs]; rfl)
                        clear key key2
                        go_upto_region 41 with fail
                        go_still_tail 12, (by kernel_rfl)
                        change wpList _ _ _ _ _ W6.drew
                        go_wp2_with fail
                        go_roundw
                        case rel => exact ⟨k + 1, _, by omega, by go_num, HN⟩
                        case measure => simp [intOf]; omega
                  · obtain rfl : k = L.length := by omega
                    have hsm : SM = SF := by rw [← HR.out.2.1, endS_last _ (Nat.le_refl _)]
                    subst hsm
                    go_wp2_with fail
                    go_meet
                    exact ⟨_, [], _, HR.out.1.nil, Nat.zero_le _, HR.out.2.2.1, HR.out.2.2.2.1⟩
              · as_aux_lemma =>
                have hlen := HPa.out.len
                have cd := dwipe W2 _ p sv lv S HPa.out.dsk.raw (by have := HPa.out.dsk.most; omega)
                rw [hlen] at cd
                go_wp2_with fail
                refine Calls.mono cd ?_
                rintro e w5 ⟨rfl, h5, k5⟩
                have hq5 : w5.heap[q]? = _ := (k5.block q (lt_heap HX.out) HOQ.out.1 HOQ.out.2.1 HOQ.out.2.2.1).trans HX.out
                have HP5 := Lib.hid (And.intro (HPa.out.disk h5 k5) (And.intro (HB1.out.trans k5.below) hq5))
                clear cd h5 k5 hq5 HRC d0 d1 d2 d3 hlen
                go_wp2_with fail
                go_loopw [18] (fun kv wx => ∃ (k : Nat) (SM : List ByteArray), k ≤ n ∧ kv = .int .i64 k ∧ Hid (PR wx w.heap.size p g n n sv (.slice none 0 0) (.slice rc L.length rcap) (freshS n) [] SM L ∧ (∀ j, j < k → SM[j]? = some (zeroL 64)) ∧ Below w.heap.size w wx ∧ wx.heap[q]? = some (.cells #[.int .i64 W, .int .i64 M, .string s, .int .u64 u] 34))) (fun kv _ => n - (intOf kv).toNat)
                case atStart => exact ⟨0, S, Nat.zero_le _, rfl, Lib.hid ⟨HP5.out.1, fun j hj => by omega, HP5.out.2.1, HP5.out.2.2⟩⟩
                case round =>
                  clear HP5
                  obtain ⟨k, SM, hk, rfl, HR⟩ := hrel
                  by_cases hlt : k < n
                  · have c := cs wr
                    go_wp2_with fail
                    refine Calls.mono c ?_
                    rintro e w6 ⟨rfl, hb⟩
                    obtain ⟨x, hx⟩ : ∃ x, SM[k]? = some x := ⟨_, List.getElem?_eq_getElem (by have := HR.out.1.len; omega)⟩
                    have hp6 := HR.out.1.below hb
                    have c0 := hp6.cell k x hx
                    have c1 := hp6.frozen k
                    have hst := hp6.set k (zeroL 64)
                    have HST := Lib.hid (And.intro hst.1 (And.intro (show ∀ j, j < k + 1 → (SM.set k (zeroL 64))[j]? = some (zeroL 64) from fun j hj => by
                      rw [List.getElem?_set]
                      split
                      · rw [if_pos (by have := HR.out.1.len; omega)]
                      · exact HR.out.2.1 j (by omega)) (And.intro ((HR.out.2.2.1.trans (hb.mono HR.out.2.2.1.size)).trans hst.2) ((heap_setCell_other w6 ⟨g, k, none⟩ q (.string (zeroL 64)) HOQ.out.2.2.2.1).trans (below_at hb (lt_heap HR.out.2.2.2) HR.out.2.2.2)))))
                    clear c hb hx hp6 hst
                    go_wp2_with fail
                    go_roundw
                    case rel => exact ⟨k + 1, _, by omega, by go_num, HST⟩
                    case measure => simp [intOf]; omega
                  · obtain rfl : n = k := by omega
                    have hsm : SM = freshS n := fresh_of HR.out.1.len HR.out.2.1
                    subst hsm
                    go_wp2_with fail
                    go_meet
                    exact ⟨_, [], _, HR.out.1.nil, Nat.zero_le _, HR.out.2.2.1, HR.out.2.2.2⟩
              · as_aux_lemma =>
                go_wp2_with fail
                go_meet
                exact ⟨S, L, lv, HPa.out, by omega, HB1.out, HX.out⟩
              · as_aux_lemma =>
                have g4 : (V == 4) = false := beq_eq_false_iff_ne.2 (by omega)
                have g5 : (V == 5) = false := beq_eq_false_iff_ne.2 (by omega)
                have g6 : (V == 6) = false := beq_eq_false_iff_ne.2 (by omega)
                have g7 : (V == 7) = false := beq_eq_false_iff_ne.2 (by omega)
                obtain ⟨m, hm⟩ : ∃ m : Nat, min s.size 70 = m := ⟨_, rfl⟩
                have hms : m ≤ s.size := by omega
                have hmI : (if (70 : Int) < s.size then (70 : Int) else (s.size : Int)) = m := by split <;> omega
                have hmI2 : min (s.size : Int) 70 = m := by omega
                have hm0 : (0 : Int) ≤ m := by omega
                have hm1 : (m : Int) ≤ s.size := by omega
                have HM := Lib.hid hm
                clear hm
                obtain ⟨t, ht⟩ : ∃ t, s.extract 0 m = t := ⟨_, rfl⟩
                have hts : t.size = m := by rw [← ht, ByteArray.size_extract]; omega
                have HTS := Lib.hid (And.intro ht hts)
                have hlen := HPa.out.len
                go_upto_region 17 with fail
                try simp only [ht]
                by_cases hok : (0 ≤ M ∧ M < n) ∧ s.size ≤ 64
                · obtain ⟨⟨hM0, hMn⟩, hs64⟩ := hok
                  obtain rfl : I = true := by rw [HI.out]; simp [hM0, hMn]
                  have hmm : m = s.size := by have := HM.out; omega
                  subst hmm
                  have hte : t = s := by rw [← ht]; exact ext_whole s
                  subst hte
                  obtain ⟨A, rfl⟩ : ∃ A : Nat, M = A := ⟨M.toNat, by omega⟩
                  have cw := dwrite A t W2 _ p sv lv S L HPa.out.dsk (by omega) hs64 (by omega)
                  have hl64 : decide ((t.size : Int) ≤ 64) = true := decide_eq_true (by omega)
                  have hl64b : (t.size : Int) ≤ 64 := by omega
                  go_wp2_with fail
                  refine Calls.mono cw ?_
                  rintro e w5 ⟨rfl, lv5, h5, k5⟩
                  have hq5 : w5.heap[q]? = _ := (k5.block q (lt_heap HX.out) HOQ.out.1 HOQ.out.2.1 HOQ.out.2.2.1).trans HX.out
                  obtain ⟨Z, hZ⟩ : ∃ Z, (zeroL 64).extract t.size 64 = Z := ⟨_, rfl⟩
                  have hZe : zeroL (64 - t.size) = Z := by rw [← hZ, zeroL_tail]
                  have hZs : t.size + Z.size ≤ 64 := by rw [← hZe, zeroL_size]; omega
                  rw [hZe] at h5
                  have HP5 := Lib.hid (And.intro (HPa.out.disk h5 k5) (And.intro (HB1.out.trans k5.below) hq5))
                  have d1 : w5.cell? ⟨q, 1, none⟩ = some (.int .i64 A) := by simp [World.cell?, hq5]
                  have hZ2 : Z.size ≤ 64 := by omega
                  have hnb : ¬ 9223372036854775807 < t.size + Z.size := by omega
                  have hnb2 : t.size + Z.size ≤ 9223372036854775807 := by omega
                  have hzz : (zeroL 64).size = 64 := zeroL_size 64
                  obtain ⟨z64, hz64⟩ : ∃ z, zeroL 64 = z := ⟨_, rfl⟩
                  have cs5 := fun w => cs w
                  try simp only [hz64] at cs5
                  rw [hz64] at hZ hzz
                  obtain ⟨i1, hi, hz0, hz1, hz2⟩ := info_parts (show (Try.prog.info? 36).map (fun i => (i.zero, i.size, i.bytes)) = some (some (.agg #[.int .i64 0, .string ⟨#[]⟩]), 2, 24) by kernel_rfl)
                  clear cw h5 k5 hq5 HRC d0 d2 d3 hZs hZe hz64
                  go_upto_region 21 with fail
                  go_region_law (first | (refine step_app2 Try.underlying28 hi hz0 hz1 hz2 rfl (by decide) rfl (.tmp 114) (.tmp 124) rfl w.heap.size _ L.length (wCells L) rfl (DZ.out.row.alloc _) _ 1 [.int .i64 A, .string (t ++ Z)] rfl (SR.lit _ _ #[.int .i64 A, .string (t ++ Z)] 2 1 (by decide) rfl) (by decide) (fun y hy => by simp at hy; rcases hy with rfl | rfl <;> rfl) (by unfold maxLen; omega) (by omega) (by have := DZ.out.dsk.le; simp; omega) ?_; intro v2 w3 own2 hg2 hn2) | (go_wp2_with (go_at_call 7; refine Calls.mono (cs5 _) ?_; rintro e wz ⟨rfl, hz⟩; have DZ := Lib.hid ((HP5.out.1.below (below_drew' (Below.refl _ _))).below hz); have hzq := (hz.block q (lt_heap HP5.out.2.2)).trans HP5.out.2.2; have dz : wz.cell? ⟨q, 1, none⟩ = some (.int .i64 A) := by simp [World.cell?, hzq])))
                  all_goals
                    clear hzq dz
                    have hbz : Below w5.heap.size w5 wz := ⟨hz.os, hz.tape, hz.output, hz.size, hz.block⟩
                    have hal := (Below.refl wz.heap.size wz).alloc (Nat.le_refl _) (.cells #[.int .i64 A, .string (t ++ Z)] 36)
                    have F := (DZ.out.below hal).push (x := (A, t ++ Z)) own2 hg2
                    have hqz : wz.heap[q]? = _ := (hbz.block q (lt_heap HP5.out.2.2)).trans HP5.out.2.2
                    have hqa := (hal.block q (lt_heap hqz)).trans hqz
                    have HQ3 := Lib.hid ((hg2.block q (lt_heap hqa) HOQ.out.2.2.2.2).trans hqa)
                    have HF := Lib.hid F.1
                    have HB3 := Lib.hid ((((HP5.out.2.1).trans (hbz.mono HP5.out.2.1.size)).trans (hal.mono (Nat.le_trans HP5.out.2.1.size hbz.size))).trans F.2)
                    have hLL : (L ++ [(A, t ++ Z)]).length ≤ i + 1 := by simp; omega
                    clear hbz hal F hqz hqa own2 hg2 hn2 hz
                    go_wp2_with fail
                    go_meet
                    exact ⟨S, L ++ [(A, t ++ Z)], lv5, HF.out, hLL, HB3.out, HQ3.out⟩
                · have cw := dwrite_none M t W2 _ p sv lv S L HPa.out.dsk (by
                    rw [hlen]
                    by_cases h1 : 0 ≤ M ∧ M < n
                    · exact .inr (by have := HM.out; have : ¬ s.size ≤ 64 := fun q => hok ⟨h1, q⟩; omega)
                    · exact .inl h1)
                  cases I
                  · clear hok
                    go_wp2_with fail
                    refine Calls.mono cw ?_
                    rintro e w5 ⟨rfl, rfl⟩
                    go_wp2_with fail
                    go_meet
                    exact ⟨S, L, lv, HPa.out, by omega, HB1.out, HX.out⟩
                  · have hin : 0 ≤ M ∧ M < n := by simpa using HI.out.symm
                    have hm64 : ¬ (t.size : Int) ≤ 64 := by
                      have := HM.out
                      have : ¬ s.size ≤ 64 := fun q => hok ⟨hin, q⟩
                      omega
                    have hm64b : decide ((t.size : Int) ≤ 64) = false := decide_eq_false hm64
                    clear hok hin
                    go_wp2_with fail
                    refine Calls.mono cw ?_
                    rintro e w5 ⟨rfl, rfl⟩
                    go_wp2_with fail
                    go_meet
                    exact ⟨S, L, lv, HPa.out, by omega, HB1.out, HX.out⟩
            case rest => as_aux_lemma =>
              obtain ⟨S', L', lv', hpr, hL', hbr, hx⟩ := hcut
              have HPc := Lib.hid hpr
              have HBc := Lib.hid hbr
              have HXc := Lib.hid hx
              obtain ⟨W3, hW3⟩ : ∃ W0, W0 = wc := ⟨_, rfl⟩
              subst hW3
              obtain ⟨rc2, rcap2, hrv, hrl2, hrm2, hrc2⟩ := hpr.rform
              have HRC2 := Lib.hid hrc2
              subst hrv
              have d1 : W3.cell? ⟨q, 1, none⟩ = some (.int .i64 M) := by simp [World.cell?, hx]
              clear hpr hbr hx hrc2 d0 d2 d3
              go_upto_if 234 with fail
              go_cut [21] (fun v wx => v = .string (rdI S' L' M) ∧ Below W3.heap.size W3 wx)
              case first => as_aux_lemma =>
                by_cases h : 0 ≤ M ∧ M < n
                · obtain rfl : I = true := by rw [HI.out]; simp [h]
                  have h1 := h.1
                  have h2 := h.2
                  obtain ⟨x, hx⟩ : ∃ x, S'[M.toNat]? = some x := ⟨_, List.getElem?_eq_getElem (by have := HPc.out.len; omega)⟩
                  have c0 := HPc.out.cell M.toNat x hx
                  have HV := Lib.hid (show rdI S' [] M = x by
                    have := rdI_in S' [] M.toNat (by have := HPc.out.len; omega)
                    rw [show ((M.toNat : Nat) : Int) = M by omega] at this
                    rw [this]
                    simp [curD, hx])
                  clear hx h
                  go_wp2_with fail
                  go_loopw [21, 22] (fun v kv wx => ∃ k : Nat, k ≤ L'.length ∧ kv = .int .i64 k ∧ v = .string (rdI S' (L'.take k) M) ∧ Below W3.heap.size W3 wx) (fun _ kv _ => L'.length - (intOf kv).toNat)
                  case atStart => exact ⟨0, by omega, rfl, by rw [List.take_zero, HV.out], Below.refl _ _⟩
                  case round => as_aux_lemma =>
                    obtain ⟨k, hk, rfl, rfl, hbx⟩ := hrel
                    have HBX := Lib.hid hbx
                    have hxq := (hbx.block q (lt_heap HXc.out)).trans HXc.out
                    have d1 : wr.cell? ⟨q, 1, none⟩ = some (.int .i64 M) := by simp [World.cell?, hxq]
                    clear hbx hxq
                    by_cases hlt : k < L'.length
                    · obtain ⟨x, hx⟩ : ∃ x, L'[k]? = some x := ⟨_, List.getElem?_eq_getElem hlt⟩
                      obtain ⟨b3, hb3, r0, r1⟩ := HRC2.out k x hx
                      have g0 := (HBX.out.cell (p := ⟨b3, k * 2, none⟩) (World.block_lt_of_cell? _ _ r0)).trans r0
                      have g1 := (HBX.out.cell (p := ⟨b3, k * 2 + 1, none⟩) (World.block_lt_of_cell? _ _ r1)).trans r1
                      have hxl := (HPc.out.dsk.ats x (List.mem_of_getElem? hx)).1
                      have HM := Lib.hid (rdI_more S' L' k x M hx hxl)
                      subst hb3
                      clear hx r0 r1
                      obtain ⟨xa, xd⟩ := x
                      simp only at *
                      by_cases he : (xa : Int) = M
                      · have he1 : ((xa : Int) == M) = true := by simpa using he
                        have HM2 := Lib.hid (show rdI S' (L'.take (k + 1)) M = xd by rw [HM.out, if_pos he])
                        clear HM he
                        go_upto_region 57 with fail
                        go_quiet (fail)
                        have HB9 := Lib.hid (below_drewN' HBX.out nq)
                        have g2 : (wr.drewN nq).cell? ⟨b3, k * 2 + 1, none⟩ = some (.string xd) := g1
                        generalize wr.drewN nq = wq at *
                        go_wp2_with fail
                        go_roundw
                        case rel => exact ⟨k + 1, by omega, by go_num, by rw [HM2.out], HB9.out⟩
                        case measure => simp [intOf]; omega
                      · have he1 : ((xa : Int) == M) = false := by simpa using he
                        have HM2 := Lib.hid (show rdI S' (L'.take (k + 1)) M = rdI S' (L'.take k) M by rw [HM.out, if_neg he])
                        clear HM he
                        go_upto_region 57 with fail
                        go_quiet (fail)
                        have HB9 := Lib.hid (below_drewN' HBX.out nq)
                        generalize wr.drewN nq = wq at *
                        go_wp2_with fail
                        go_roundw
                        case rel => exact ⟨k + 1, by omega, by go_num, by rw [HM2.out], HB9.out⟩
                        case measure => simp [intOf]; omega
                    · have HTK := Lib.hid (show L'.take k = L' from List.take_of_length_le (by omega))
                      go_wp2_with fail
                      go_meet
                      exact ⟨by rw [HTK.out], HBX.out⟩
                · obtain rfl : I = false := by rw [HI.out]; simp [h]
                  have HV := Lib.hid (show rdI S' L' M = ⟨#[]⟩ by unfold rdI; rw [if_neg (by have := HPc.out.len; omega)])
                  clear h
                  go_wp2_with fail
                  go_meet
                  exact ⟨by rw [HV.out], Below.refl _ _⟩
              case rest => as_aux_lemma =>
                obtain ⟨rfl, hbx⟩ := hcut
                obtain ⟨W4, hW4⟩ : ∃ W0, W0 = wc := ⟨_, rfl⟩
                subst hW4
                have HBX := Lib.hid hbx
                have HPx := Lib.hid (HPc.out.below hbx)
                have hlen2 := HPc.out.len
                have hxq := (hbx.block q (lt_heap HXc.out)).trans HXc.out
                have d1 : W4.cell? ⟨q, 1, none⟩ = some (.int .i64 M) := by simp [World.cell?, hxq]
                have cr := read_any M W4 _ _ _ _ _ _ HPx.out.dsk (by omega)
                have clr := fun (w' : World) (hb : Below W4.heap.size W4 w') => dlater w' _ _ _ _ _ _ (HPx.out.dsk.below hb)
                have her : erI S' M = if I = true then 0 else 1 := by
                  unfold erI
                  rw [HI.out, hlen2]
                  by_cases h : 0 ≤ M ∧ M < n <;> simp [h]
                rw [her] at cr
                obtain ⟨X, hX⟩ : ∃ X, rdI S' L' M = X := ⟨_, rfl⟩
                rw [hX] at cr
                rw [hX]
                clear hbx hxq her hlen2 hX
                cases I
                · simp only [Bool.false_eq_true, if_false] at cr
                  go_wp2_with fail
                  refine Calls.mono cr ?_
                  rintro e w6 ⟨rfl, hb⟩
                  have cl := clr w6 hb
                  have HP6 := Lib.hid (HPx.out.below hb)
                  have HB6 := Lib.hid (HBX.out.trans (hb.mono HBX.out.size))
                  clear hb cr clr
                  go_wp2_with fail
                  refine Calls.mono cl ?_
                  rintro e w7 ⟨rfl, rfl⟩
                  go_wp2_with fail
                  go_roundw
                  case rel => exact ⟨i + 1, S', L', lv', by omega, by omega, by go_num, HP6.out, hL', HBc.out.trans (HB6.out.mono HBc.out.size)⟩
                  case measure => simp [intOf]; omega
                · simp only [if_true] at cr
                  go_wp2_with fail
                  refine Calls.mono cr ?_
                  rintro e w6 ⟨rfl, hb⟩
                  have cl := clr w6 hb
                  have HP6 := Lib.hid (HPx.out.below hb)
                  have HB6 := Lib.hid (HBX.out.trans (hb.mono HBX.out.size))
                  clear hb cr clr
                  go_wp2_with fail
                  refine Calls.mono cl ?_
                  rintro e w7 ⟨rfl, rfl⟩
                  go_wp2_with fail
                  go_roundw
                  case rel => exact ⟨i + 1, S', L', lv', by omega, by omega, by go_num, HP6.out, hL', HBc.out.trans (HB6.out.mono HBc.out.size)⟩
                  case measure => simp [intOf]; omega
        · by_cases hc1 : i < len0
          · have hc2 : ¬ i < 60 := fun h => hc ⟨hc1, h⟩
            clear hc
            go_wp2_with fail
            go_ret
            exact ⟨rfl, HBr.out⟩
          · clear hc
            go_wp2_with fail
            go_ret
            exact ⟨rfl, HBr.out⟩
end Go.Proofs.Ytbmjkieikaapfaa
