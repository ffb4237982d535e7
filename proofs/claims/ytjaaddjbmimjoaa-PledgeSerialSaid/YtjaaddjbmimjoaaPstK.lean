/-
  pledge: what a block may hold (Of), the walk.
-/
import Derived.Test.YtjaaddjbmimjoaaPstJ
namespace Go.Proofs.Ytjaaddjbmimjoaa
open Go.RowKit
open Go.Maps (Keyed)
set_option linter.unusedVariables false
set_option linter.unusedSimpArgs false

/-- the writings of a block -/
def wrU (E : List Ev) (B block : Int) : List Us := (usesN E B block E.length).filter (fun u => u.wr)
structure Over (W : List Us) : Prop where
  til : ∀ u ∈ W, u.til < 1073741824 ∧ (Lit.int .i64 u.til).wf = true ∧ (Lit.int .i64 u.from_).wf = true
  over : ∀ u ∈ W, (W.map (fun u => u.from_)).any (fun x => decide (u.til < x)) = true ∨ u.val = sureU W
def POfP (s : ByteArray) (w : World) (e : Ending) (w' : World) : Prop := e = .returned (.agg #[.string s, .slice none 0 0]) ∧ Below w.heap.size w w'
set_option maxHeartbeats 6400000 in
set_option maxRecDepth 100000 in
theorem pof (E : List Ev) (B block : Int) (v : Value) (w : World) (hE : Elts w Ev.c 10 v E) (hok : ∀ e ∈ E, EvOk e) (hn : E.length ≤ 100000) (hW : Over (wrU E B block)) :
    Calls Try.prog 44 #[v, .int .i64 B, .int .i64 block] w (POfP (sureU (wrU E B block)) w) := by
  unfold POfP
  obtain ⟨W, hWe⟩ : ∃ W, wrU E B block = W := ⟨_, rfl⟩
  rw [hWe] at hW ⊢
  have HWE := Lib.hid hWe
  clear hWe
  have hb0 : Below w.heap.size w (w.alloc (.cells #[.string ⟨#[]⟩, .slice none 0 0] 99)) := (Below.refl _ _).alloc (Nat.le_refl _) _
  have hal := heap_alloc_self w (.cells #[.string ⟨#[]⟩, .slice none 0 0] 99)
  obtain ⟨R, hR⟩ : ∃ R, w.heap.size = R := ⟨_, rfl⟩
  have hz : (w.alloc (.cells #[.string ⟨#[]⟩, .slice none 0 0] 99)).heap.size = R + 1 := by simp [hR]
  rw [hR] at hal hb0
  have H0 := Lib.hid (And.intro hal (And.intro hb0 (And.intro hz (And.intro hR (And.intro hE (And.intro hok (And.intro hn hW)))))))
  clear hal hb0 hz hE hok hn hW
  go_enter Try.func44, Try.ntmps44
  go_upto_region 1 with fail
  try rw [hR]
  generalize w.alloc (.cells #[.string ⟨#[]⟩, .slice none 0 0] 99) = w1 at *
  go_wp2_with fail
  refine Calls.mono (repeat0 32 w1 (by decide)) ?_
  rintro e w2 ⟨rfl, hb2⟩
  have hb3 : Below w2.heap.size w2 (w2.alloc (.cells #[.string (zeroL 32), .slice none 0 0] 99)) := (Below.refl _ _).alloc (Nat.le_refl _) _
  have hp := heap_alloc_self w2 (.cells #[.string (zeroL 32), .slice none 0 0] 99)
  have hs2 := hb2.size
  obtain ⟨p, hpp⟩ : ∃ p, w2.heap.size = p := ⟨_, rfl⟩
  have hbw : Below R w (w2.alloc (.cells #[.string (zeroL 32), .slice none 0 0] 99)) := (H0.out.2.1.trans (hb2.mono (by have := H0.out.2.2.1; omega))).trans (hb3.mono (by have := H0.out.2.2.1; omega))
  rw [hpp] at hp
  have H1 := Lib.hid (And.intro (below_at hb3 (by have := lt_heap H0.out.1; omega) (below_at hb2 (lt_heap H0.out.1) H0.out.1)) (And.intro hp hbw))
  have hRp : R < p := by have := H0.out.2.2.1; omega
  clear hb2 hb3 hp hs2 hbw hR
  go_upto_region 2 with fail
  try rw [hpp]
  generalize w2.alloc (.cells #[.string (zeroL 32), .slice none 0 0] 99) = w3 at *
  clear hpp
  have c1 := puses E B block v w3 (H0.out.2.2.2.2.1.below (H1.out.2.2.mono (Nat.le_of_eq H0.out.2.2.2.1))) H0.out.2.2.2.2.2.1 H0.out.2.2.2.2.2.2.1
  go_wp2_with fail
  refine Calls.mono c1 ?_
  rintro e w4 ⟨v4, rfl, ho4, hb4⟩
  have c2 := pdel_own _ v4 _ w4 ho4
  have H4 := Lib.hid (And.intro ho4 hb4)
  clear c1 ho4 hb4
  go_wp2_with fail
  refine Calls.mono c2 ?_
  rintro e w5 ⟨v5, rfl, he5, ht5, hg5⟩
  have hb5 : Below w3.heap.size w3 w5 := H4.out.2.grown hg5 H4.out.2.size (fun k hk => (H4.out.1.lt k hk).1)
  rw [show (usesN E B block E.length).filter (fun u => u.wr) = W from HWE.out] at he5
  obtain ⟨av, cap, rfl, hlc, hcm⟩ := elts_len he5
  have hb6 : Below w5.heap.size w5 ((w5.alloc (.map #[] 0)).alloc (.cells #[.map (some w5.heap.size)] 146)) := ((Below.refl _ _).alloc (Nat.le_refl _) _).alloc (by simp) _
  obtain ⟨m1, m2, m3, m4⟩ := two_newF w5 (.map #[] 0) (.cells #[.map (some w5.heap.size)] 146)
  have hmade := (World.ownsMap_made (H := Unit) w5 Try.prog 3 plP).alloc (.cells #[.map (some w5.heap.size)] 146)
  have hp5 := below_at hb5 (lt_heap H1.out.2.1) H1.out.2.1
  have hO : OSt p (w5.heap.size + 1) w5.heap.size (.slice av W.length cap) W 0 ((w5.alloc (.map #[] 0)).alloc (.cells #[.map (some w5.heap.size)] 146)) :=
    ⟨below_at hb6 (lt_heap hp5) hp5, m2, ⟨_, hmade, fun x => by simp [Maps.has]⟩, he5.below hb6, fun g e => by obtain ⟨A, fr, q⟩ := ht5 g e; exact ⟨A, fr, below_at hb6 (lt_heap q) q⟩⟩
  have hlow : Below R w ((w5.alloc (.map #[] 0)).alloc (.cells #[.map (some w5.heap.size)] 146)) := (H1.out.2.2.trans (hb5.mono (by have := H1.out.2.2.size; have := H0.out.2.2.2.1; omega))).trans (hb6.mono (by have := H1.out.2.2.size; have := hb5.size; have := H0.out.2.2.2.1; omega))
  obtain ⟨m, hm⟩ : ∃ m, W.length = m := ⟨_, rfl⟩
  have hml : m ≤ 400000 := by
    have h1 := uses_len E B block E.length
    have h2 := List.length_filter_le (fun u : Us => u.wr) (usesN E B block E.length)
    have h3 := H0.out.2.2.2.2.2.2.1
    rw [← hm, ← HWE.out]
    unfold wrU
    omega
  rw [hm] at hO
  have hR5 := below_at hb6 (by have := lt_heap H1.out.1; have := hb5.size; omega) (below_at hb5 (lt_heap H1.out.1) H1.out.1)
  have HO := Lib.hid (And.intro hO (And.intro hlow (And.intro hR5 (And.intro m4 hm))))
  have hp5' : p < w5.heap.size := lt_heap hp5
  obtain ⟨b, hbb⟩ : ∃ b, w5.heap.size = b := ⟨_, rfl⟩
  rw [hbb] at HO
  rw [hm] at hlc ⊢
  clear hR5 c2 H4 he5 ht5 hg5 hb5 hb6 m1 m2 m3 m4 hmade hp5 hO hlow hlc hcm
  have hmm := @run_makeMap Try.prog
  go_upto_region 4 with fail
  try rw [hbb]
  clear hmm
  have hpb : p < b := by omega
  generalize (w5.alloc (.map #[] 0)).alloc (.cells #[.map (some b)] 146) = w6 at *
  go_wp2_with fail
  go_loopw [25] (fun i wr => ∃ j : Nat, j ≤ m ∧ i = .int .i64 j ∧ Hid (OSt p (b + 1) b (.slice av m cap) W j wr ∧ Below R w wr ∧ wr.heap[R]? = some (.cells #[.string ⟨#[]⟩, .slice none 0 0] 99) ∧ R < wr.heap.size)) (fun i _ => m - (intOf i).toNat)
  case atStart => exact ⟨0, Nat.zero_le _, rfl, Lib.hid ⟨HO.out.1, HO.out.2.1, HO.out.2.2.1, lt_heap HO.out.2.2.1⟩⟩
  case round =>
    obtain ⟨j, hj, rfl, HR⟩ := hrel
    by_cases hlt : j < m
    · obtain ⟨x, hx⟩ : ∃ x, W[j]? = some x := ⟨_, List.getElem?_eq_getElem (by have := HO.out.2.2.2.2; omega)⟩
      obtain ⟨g, off, rfl, hg, k0, k1, k2, k3⟩ := us_cells HR.out.1.el hx
      obtain ⟨htl, htw, hfw⟩ := H0.out.2.2.2.2.2.2.2.til x (List.mem_of_getElem? hx)
      have hb7 : Below wr.heap.size wr (wr.alloc (.cells #[.bool x.wr, .string x.val, .int .i64 x.from_, .int .i64 x.til] 143)) := (Below.refl _ _).alloc (Nat.le_refl _) _
      have hal := heap_alloc_self wr (.cells #[.bool x.wr, .string x.val, .int .i64 x.from_, .int .i64 x.til] 143)
      obtain ⟨U, hU⟩ : ∃ U, wr.heap.size = U := ⟨_, rfl⟩
      have hUp : p < U ∧ b < U ∧ R < U := by have := lt_heap HR.out.1.pl; have := HR.out.1.ne.2.2.2.2.2; have := HR.out.2.2.2; omega
      rw [hU] at hal
      have hO7 := HR.out.1.below hb7
      have hlow7 := HR.out.2.1.trans (hb7.mono (by have := HR.out.2.2.2; omega))
      have hR7 := below_at hb7 (lt_heap HR.out.2.2.1) HR.out.2.2.1
      have H7 := Lib.hid (And.intro hO7 (And.intro hlow7 (And.intro hR7 (And.intro hal hx))))
      clear hb7 hal hO7 hlow7 hR7 hx hg
      go_upto_region 7 with fail
      try rw [hU]
      generalize wr.alloc (.cells #[.bool x.wr, .string x.val, .int .i64 x.from_, .int .i64 x.til] 143) = w7 at *
      clear k0 k1 k2 k3 hU HR
      have k1 := cell_atF H7.out.2.2.2.1 1 (v := .string x.val) rfl
      have k2 := cell_atF H7.out.2.2.2.1 2 (v := .int .i64 x.from_) rfl
      have k3 := cell_atF H7.out.2.2.2.1 3 (v := .int .i64 x.til) rfl
      have y0 := cell_atF H7.out.1.var 0 (v := .map (some b)) rfl
      obtain ⟨w8, hrun, hg8, hp8, hO8⟩ := H7.out.1.store H7.out.2.2.2.2 hfw htw (by omega)
      have u1 : w8.cell? ⟨U, 1, none⟩ = some (.string x.val) := cell_atF ((hg8.block U (lt_heap H7.out.2.2.2.1) (fun e => by injection e with e; omega)).trans H7.out.2.2.2.1) 1 rfl
      have p0 := cell_atF hp8 0 (v := .string (sureU (W.take j))) rfl
      have pf : ∀ i, w8.frozen? ⟨p, i, none⟩ = false := fun i => by simp [World.frozen?, hp8]
      have HF := Lib.hid (show OSt p (b + 1) b (.slice (some ⟨g, off, none⟩) m cap) W (j + 1) (w8.setCell ⟨p, 0, none⟩ (.string x.val)) ∧ Below R w (w8.setCell ⟨p, 0, none⟩ (.string x.val)) ∧ (w8.setCell ⟨p, 0, none⟩ (.string x.val)).heap[R]? = some (.cells #[.string ⟨#[]⟩, .slice none 0 0] 99) ∧ R < (w8.setCell ⟨p, 0, none⟩ (.string x.val)).heap.size from
        ⟨hO8, (H7.out.2.1.grown hg8 (by have := lt_heap H7.out.2.2.1; omega) (fun k e => by injection e with e; omega)).setCell (by show R ≤ p; omega) _, by
          rw [heap_setCell_other _ _ _ _ (by show R ≠ p; omega)]
          exact (hg8.block R (lt_heap H7.out.2.2.1) (fun e => by injection e with e; omega)).trans H7.out.2.2.1, by have := hg8.size; have := lt_heap H7.out.2.2.1; simp; omega⟩)
      clear hg8 hp8 hO8
      go_wp2_with fail
      go_roundw
      case rel => exact ⟨j + 1, by omega, by go_num, HF⟩
      case measure => exact meas_p m j hlt
    · obtain rfl : j = m := by omega
      have eg : ∀ args w, (callFunc 78 args).run Try.prog w = .ok (.enter 78 args) w := fun _ _ => by rfl
      have HS := HR
      clear HR HO
      go_wp2_with fail
      go_loopw [44] (fun i wx => ∃ k : Nat, k ≤ j ∧ i = .int .i64 k ∧ Hid (OSt p (b + 1) b (.slice av j cap) W j wx ∧ Below R w wx ∧ wx.heap[R]? = some (.cells #[.string ⟨#[]⟩, .slice none 0 0] 99) ∧ W.length = j)) (fun i _ => j - (intOf i).toNat)
      case atStart => exact ⟨0, Nat.zero_le _, rfl, Lib.hid ⟨HS.out.1, HS.out.2.1, HS.out.2.2.1, hm⟩⟩
      case round =>
        obtain ⟨k, hk, rfl, HR⟩ := hrel
        have hT : W.take j = W := List.take_of_length_le (by omega)
        by_cases hlk : k < j
        · obtain ⟨x, hx⟩ : ∃ x, W[k]? = some x := ⟨_, List.getElem?_eq_getElem (by omega)⟩
          obtain ⟨g, off, rfl, hg, k0, k1, k2, k3⟩ := us_cells HR.out.1.el hx
          have hov := H0.out.2.2.2.2.2.2.2.over x (List.mem_of_getElem? hx)
          have hb7 : Below wr.heap.size wr (wr.alloc (.cells #[.bool x.wr, .string x.val, .int .i64 x.from_, .int .i64 x.til] 143)) := (Below.refl _ _).alloc (Nat.le_refl _) _
          have hal := heap_alloc_self wr (.cells #[.bool x.wr, .string x.val, .int .i64 x.from_, .int .i64 x.til] 143)
          obtain ⟨U, hU⟩ : ∃ U, wr.heap.size = U := ⟨_, rfl⟩
          rw [hU] at hal
          have hO7 := HR.out.1.below hb7
          have hRU := lt_heap HR.out.2.2.1
          have hlow7 := HR.out.2.1.trans (hb7.mono (by omega))
          have hR7 := below_at hb7 (lt_heap HR.out.2.2.1) HR.out.2.2.1
          have H7 := Lib.hid (And.intro hO7 (And.intro hlow7 (And.intro hR7 (And.intro hal hov))))
          clear hb7 hal hO7 hlow7 hR7 hx hg hov HS hRU
          go_upto_region 15 with fail
          try rw [hU]
          generalize wr.alloc (.cells #[.bool x.wr, .string x.val, .int .i64 x.from_, .int .i64 x.til] 143) = w7 at *
          clear k0 k1 k2 k3 hU HR
          have k0 := cell_atF H7.out.2.2.2.1 0 (v := .bool x.wr) rfl
          have k1 := cell_atF H7.out.2.2.2.1 1 (v := .string x.val) rfl
          have k2 := cell_atF H7.out.2.2.2.1 2 (v := .int .i64 x.from_) rfl
          have k3 := cell_atF H7.out.2.2.2.1 3 (v := .int .i64 x.til) rfl
          obtain ⟨D, hmD, hDD⟩ := H7.out.1.map
          have cv := pover (W.map (fun u => u.from_)) x (b + 1) b j D w7 (cell_atF H7.out.1.var 0 rfl) (lt_heap H7.out.1.var) hmD (by rw [hT] at hDD; exact hDD)
          unfold POverP at cv
          obtain ⟨q, hq⟩ : ∃ q, (W.map (fun u => u.from_)).any (fun z => decide (x.til < z)) = q := ⟨_, rfl⟩
          have HQ := Lib.hid (show q = true ∨ x.val = sureU W by rw [← hq]; exact H7.out.2.2.2.2)
          rw [hq] at cv
          clear hq hmD hDD
          go_wp2_with fail
          refine Calls.mono cv ?_
          rintro e w8 ⟨rfl, hb8⟩
          have H8 := Lib.hid (show OSt p (b + 1) b (.slice (some ⟨g, off, none⟩) j cap) W j w8 ∧ Below R w w8 ∧ w8.heap[R]? = some (.cells #[.string ⟨#[]⟩, .slice none 0 0] 99) ∧ W.length = j from ⟨H7.out.1.below hb8, H7.out.2.1.trans (hb8.mono (Nat.le_of_lt (lt_heap H7.out.2.2.1))), below_at hb8 (lt_heap H7.out.2.2.1) H7.out.2.2.1, hm⟩)
          have u1 := cell_atF (below_at hb8 (lt_heap H7.out.2.2.2.1) H7.out.2.2.2.1) 1 (v := .string x.val) rfl
          have p0 := cell_atF H8.out.1.pl 0 (v := .string (sureU (W.take j))) rfl
          have p1 := cell_atF H8.out.1.pl 1 (v := .slice none 0 0) rfl
          rw [hT] at p0
          clear cv hb8 k0 k1 k2 k3
          cases q
          · have hxv := HQ.out.resolve_left (by decide)
            have ck : ∀ w, Calls Try.prog 79 #[.agg #[.string (sureU W), .slice none 0 0], .string x.val] w fun e w' => e = .returned (.bool true) ∧ Below w.heap.size w w' := fun w => by
              have := pkeeps (sureU W) x.val w
              unfold PKeepsP at this
              rwa [decide_eq_true hxv] at this
            clear hxv
            go_wp2_with fail
            refine Calls.mono (ck w8) ?_
            rintro e w9 ⟨rfl, hb9⟩
            have H9 := Lib.hid (show OSt p (b + 1) b (.slice (some ⟨g, off, none⟩) j cap) W j w9 ∧ Below R w w9 ∧ w9.heap[R]? = some (.cells #[.string ⟨#[]⟩, .slice none 0 0] 99) ∧ W.length = j from ⟨H8.out.1.below hb9, H8.out.2.1.trans (hb9.mono (Nat.le_of_lt (lt_heap H8.out.2.2.1))), below_at hb9 (lt_heap H8.out.2.2.1) H8.out.2.2.1, hm⟩)
            clear hb9 p0 p1 u1
            go_wp2_with fail
            go_roundw
            case rel => exact ⟨k + 1, by omega, by go_num, H9⟩
            case measure => exact meas_p j k hlk
          · go_wp2_with fail
            go_roundw
            case rel => exact ⟨k + 1, by omega, by go_num, H8⟩
            case measure => exact meas_p j k hlk
        · obtain rfl : k = j := by omega
          have p0 := cell_atF HR.out.1.pl 0 (v := .string (sureU (W.take k))) rfl
          have p1 := cell_atF HR.out.1.pl 1 (v := .slice none 0 0) rfl
          rw [hT] at p0
          have r0 := cell_atF HR.out.2.2.1 0 (v := .string ⟨#[]⟩) rfl
          have r1 := cell_atF HR.out.2.2.1 1 (v := .slice none 0 0) rfl
          have rf : ∀ i, wr.frozen? ⟨R, i, none⟩ = false := fun i => by simp [World.frozen?, HR.out.2.2.1]
          have h1 := heap_set_self HR.out.2.2.1 0 (.string (sureU W))
          have h2 := heap_set_self h1 1 (.slice none 0 0)
          have HF := Lib.hid (And.intro h2 (((HR.out.2.1.setCell (p := ⟨R, 0, none⟩) (Nat.le_refl _) (.string (sureU W)))).setCell (p := ⟨R, 1, none⟩) (Nat.le_refl _) (.slice none 0 0)))
          clear h1 h2
          go_wp2_with fail
          clear p0 p1 r0 r1 rf
          generalize (wr.setCell ⟨R, 0, none⟩ (.string (sureU W))).setCell ⟨R, 1, none⟩ (.slice none 0 0) = wf at *
          have y0 := cell_atF HF.out.1 0 (v := .string (sureU W)) rfl
          have y1 := cell_atF HF.out.1 1 (v := .slice none 0 0) rfl
          refine bodyPost_ret (v := .agg #[.string (sureU W), .slice none 0 0]) (by simp [results, Try.results44, go_sem, y0, y1]) rfl ?_
          exact ⟨rfl, HF.out.2.mono (Nat.le_of_eq H0.out.2.2.2.1)⟩
end Go.Proofs.Ytjaaddjbmimjoaa
