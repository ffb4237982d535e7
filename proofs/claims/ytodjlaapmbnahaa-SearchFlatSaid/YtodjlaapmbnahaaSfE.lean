/-
  tarnlaw40.events: the walk.
-/
import Derived.Test.YtodjlaapmbnahaaSfD
namespace Go.Proofs.Ytodjlaapmbnahaa
open Go.RowKit
set_option linter.unusedVariables false
set_option linter.unusedSimpArgs false

structure TurnS where
  W : Int
  A : Int
  L : Int
  D : ByteArray
  S : Bool
  tell : Bool
  at_ : Int
  data : ByteArray
def TurnS.cells (t : TurnS) : List Value := [.int .i64 t.W, .int .i64 t.A, .int .i64 t.L, .string t.D, .bool t.S, .bool t.tell, .int .i64 t.at_, .string t.data]
def TurnS.ok (t : TurnS) : Prop := (Lit.int .i64 t.W).wf = true ∧ (Lit.int .i64 t.A).wf = true ∧ (Lit.int .i64 t.L).wf = true ∧ t.D.size ≤ maxLen ∧ (Lit.int .i64 t.at_).wf = true ∧ t.data.size ≤ maxLen
theorem fits_turnS {w : World} (ys : List Value) (h : Fits w (.two (.two (.int .i64) (.two (.int .i64) (.two (.int .i64) (.two .str (.two .bool .unit))))) (.two .bool (.two (.int .i64) (.two .str .unit)))) ys) : ∃ x : TurnS, ys = x.cells ∧ x.ok := by
  obtain ⟨z0, z1, e0, ⟨x0, y0, f0, ⟨W, rfl, hW⟩, x1, y1, rfl, ⟨A, rfl, hA⟩, x2, y2, rfl, ⟨L, rfl, hL⟩, x3, y3, rfl, ⟨D, rfl, hD⟩, x4, y4, rfl, ⟨S, rfl⟩, rfl⟩, z2, z3, rfl, ⟨T, rfl⟩, z4, z5, rfl, ⟨K, rfl, hK⟩, z6, z7, rfl, ⟨G, rfl, hG⟩, rfl⟩ := h
  subst f0
  exact ⟨⟨W, A, L, D, S, T, K, G⟩, e0, hW, hA, hL, hD, hK, hG⟩
theorem meas_14 {j : Nat} (h : (j : Int) < 14) : 14 - (intOf (.int .i64 ((j : Int) + 1))).toNat < 14 - (intOf (.int .i64 (j : Int))).toNat := by
  show 14 - ((j : Int) + 1).toNat < 14 - ((j : Int)).toNat
  omega
structure SL (N : Nat) (w0 : World) (j n : Nat) (ov pv vv : Value) (w : World) : Prop where
  ex : ∃ E O VS, SM N w0 n E O VS ov pv vv w ∧ E.length ≤ j ∧ O.length ≤ j ∧ VS.length ≤ j + 1
  le : n ≤ j
def EvsP (w : World) (e : Ending) (w' : World) : Prop := ∃ v E n, e = .returned v ∧ RowE w.heap.size w' v E ∧ EvJ E n ∧ n ≤ 14 ∧ E.length ≤ 14 ∧ Below w.heap.size w w'
set_option maxHeartbeats 6400000 in
set_option maxRecDepth 100000 in
theorem pevents (a : Option Addr) (len cap : Nat) (w : World) (hf : Fits w (.slice (.two (.two (.int .i64) (.two (.int .i64) (.two (.int .i64) (.two .str (.two .bool .unit))))) (.two .bool (.two (.int .i64) (.two .str .unit))))) [.slice a len cap]) :
    Calls Try.prog 11 #[.slice a len cap] w (EvsP w) := by
  unfold EvsP
  obtain ⟨i0, hi, hz0, hz1, hz2⟩ := info_parts einfoS
  obtain ⟨is0, his, hs0, hs1, hs2⟩ := info_parts sinfoS
  obtain ⟨rs, hrs, hel, hok⟩ := fits_rows (c := TurnS.cells) (good := TurnS.ok) fits_turnS hf
  have hlc := hf.slice.1
  have hcm := hf.slice.2.1
  unfold maxLen at hcm
  have HE := Lib.hid (And.intro hrs (And.intro hel hok))
  clear hrs hel hok hf
  obtain ⟨N, hN⟩ : ∃ N, w.heap.size = N := ⟨_, rfl⟩
  have o1 := World.ownsRow_lit (base := N) (e := 36) (size := 10) w #[] 0 (Nat.le_of_eq hN.symm) (by decide) rfl
  have o2 := World.ownsRow_lit (base := N) (e := 36) (size := 10) (w.alloc (.cells #[] 36)) #[] 0 (by simp; omega) (by decide) rfl
  have o3 := World.ownsRow_lit (base := N) (e := 9) (size := 1) ((w.alloc (.cells #[] 36)).alloc (.cells #[] 36)) #[.string (zeroL 32)] 1 (by simp; omega) (by decide) rfl
  have z1 : (w.alloc (.cells #[] 36)).heap.size = N + 1 := by simp [hN]
  have z2 : ((w.alloc (.cells #[] 36)).alloc (.cells #[] 36)).heap.size = N + 1 + 1 := by simp [hN]
  rw [hN] at o1
  rw [z1] at o2
  rw [z2] at o3
  have HR := Lib.hid (show SL N w 0 0 (.slice (some ⟨N, 0, none⟩) 0 0) (.slice (some ⟨N + 1, 0, none⟩) 0 0) (.slice (some ⟨N + 1 + 1, 0, none⟩) 1 1) (((w.alloc (.cells #[] 36)).alloc (.cells #[] 36)).alloc (.cells #[.string (zeroL 32)] 9)) from by
    have b2 : Below (N + 1) (w.alloc (.cells #[] 36)) (((w.alloc (.cells #[] 36)).alloc (.cells #[] 36)).alloc (.cells #[.string (zeroL 32)] 9)) := ((Below.refl _ _).alloc (by omega) _).alloc (by omega) _
    have b3 : Below (N + 1 + 1) ((w.alloc (.cells #[] 36)).alloc (.cells #[] 36)) (((w.alloc (.cells #[] 36)).alloc (.cells #[] 36)).alloc (.cells #[.string (zeroL 32)] 9)) := (Below.refl _ _).alloc (by omega) _
    refine ⟨⟨[], [], [zeroL 32], ⟨?_, ?_, ?_, ?_, ?_, ?_, evj0, ?_, ?_, by decide⟩, Nat.le_refl _, Nat.le_refl _, Nat.le_refl _⟩, Nat.le_refl _⟩
    · exact owns_below o1 (by rw [z1]; exact b2)
    · exact owns_below o2 (by rw [z2]; exact b3)
    · exact o3
    · intro g e e2
      have e1 : N = g := Option.some.inj e
      have e3 : N + 1 = g := Option.some.inj e2
      omega
    · exact (((Below.refl _ _).alloc (by omega) _).alloc (by omega) _).alloc (by omega) _
    · have := b3.size
      omega
    · intro o ho; cases ho
    · intro s hs
      rw [List.mem_singleton.1 hs]
      rw [zeroL_size]; decide)
  clear o1 o2 o3
  go_enter Try.func11, Try.ntmps11
  go_wp2_with fail
  refine Calls.mono (zeros_any _) ?_
  rintro e w2 ⟨rfl, rfl⟩
  go_upto_region 3 with fail
  try simp only [hN]
  generalize ((w.alloc (.cells #[] 36)).alloc (.cells #[] 36)).alloc (.cells #[.string (zeroL 32)] 9) = w3 at *
  clear z1 z2
  go_wp2_with fail
  go_loopw [3, 4, 5, 6, 7] (fun ov pv dv vv iv wr => ∃ j n : Nat, j ≤ len ∧ j ≤ 14 ∧ dv = .int .i64 (n : Int) ∧ iv = .int .i64 (j : Int) ∧ Hid (SL N w j n ov pv vv wr)) (fun _ _ _ _ iv _ => 14 - (intOf iv).toNat)
  case atStart => exact ⟨0, 0, Nat.zero_le _, by decide, rfl, rfl, HR⟩
  case round =>
    clear HR
    obtain ⟨j, n, hj1, hj2, rfl, rfl, HRel⟩ := hrel
    by_cases hin : j < len ∧ (j : Int) < 14
    · obtain ⟨hi1, hi2⟩ := hin
      have hi1' : (j : Int) < (len : Int) := by omega
      have hnj := HRel.out.le
      obtain ⟨E, O, VS, HS0, hEj, hOj, hVj⟩ := HRel.out.ex
      have HS1 := Lib.hid HS0
      obtain ⟨x, hx⟩ : ∃ x, rs[j]? = some x := ⟨rs[j]'(by rw [HE.out.1]; exact hi1), List.getElem?_eq_getElem _⟩
      obtain ⟨-, b0, off, rfl, hb0, hcell⟩ := (HE.out.2.1.below (HS0.low.mono (Nat.le_of_eq hN))).at_ hx
      have e5 : wr.cell? ⟨b0, off + j * 8 + 5, none⟩ = some (.bool x.tell) := hcell 5 (.bool x.tell) rfl
      have hxo := HE.out.2.2 x (List.mem_of_getElem? hx)
      have HX := Lib.hid (And.intro hxo hcell)
      have HB0 := Lib.hid hb0
      obtain ⟨pa, pc, rfl⟩ := rowForm HS0.opn
      obtain ⟨va, vc, rfl⟩ := rowForm HS0.vals
      clear HS0 HRel hcell hx hb0 hxo
      by_cases htl : x.tell = true ∧ 0 < O.length
      · obtain ⟨ht1, ht2⟩ := htl
        rw [ht1] at e5
        have ht2' : (0 : Int) < (O.length : Int) := by omega
        have e6 : wr.cell? ⟨b0, off + j * 8 + 6, none⟩ = some (.int .i64 x.at_) := HX.out.2 6 (.int .i64 x.at_) rfl
        have hmask : bits .and .i64 x.at_ 15 = x.at_ % 16 := mask_mod x.at_ 4 15 (by decide) (by decide)
        obtain ⟨m, hm⟩ : ∃ m, x.at_ % 16 = m := ⟨_, rfl⟩
        rw [hm] at hmask
        obtain ⟨k, hk⟩ : ∃ k : Nat, m.tmod (O.length : Int) = (k : Int) := ⟨(m.tmod (O.length : Int)).toNat, by have := Int.tmod_nonneg (O.length : Int) (show 0 ≤ m by omega); omega⟩
        have hkl : k < O.length := by
          have := Int.tmod_lt_of_pos m (show 0 < (O.length : Int) by omega)
          omega
        have hkl' : (k : Int) < (O.length : Int) := by omega
        have hkn : ¬ (k : Int) < 0 := by omega
        have hdz : ¬ ((O.length : Int) = 0) := by omega
        obtain ⟨o, ho⟩ : ∃ o, O[k]? = some o := ⟨_, List.getElem?_eq_getElem hkl⟩
        obtain ⟨-, g, go, rfl, hgl, hcell2⟩ := (HS1.out.opn.elts).at_ ho
        have c1 : wr.cell? ⟨g, go + k * 10 + 1, none⟩ = some (.int .i64 o.id) := hcell2 1 (.int .i64 o.id) rfl
        have c3 : wr.cell? ⟨g, go + k * 10 + 3, none⟩ = some (.int .i64 o.what) := hcell2 3 (.int .i64 o.what) rfl
        have hX := heap_alloc_self wr (.cells #[.bool true, .int .i64 o.id, .int .i64 5, .int .i64 0, .int .i64 0, .int .i64 0, .string ⟨#[]⟩, .bool false, .int .i64 0, .string ⟨#[]⟩] 36)
        have hb8 : Below wr.heap.size wr (wr.alloc (.cells #[.bool true, .int .i64 o.id, .int .i64 5, .int .i64 0, .int .i64 0, .int .i64 0, .string ⟨#[]⟩, .bool false, .int .i64 0, .string ⟨#[]⟩] 36)) := (Below.refl _ _).alloc (Nat.le_refl _) _
        obtain ⟨X, hXe⟩ : ∃ X, wr.heap.size = X := ⟨_, rfl⟩
        have c3' := (hb8.cell (p := ⟨g, go + k * 10 + 3, none⟩) hgl).trans c3
        have hbX : b0 < wr.heap.size := HB0.out
        have e7 := (hb8.cell (p := ⟨b0, off + j * 8 + 7, none⟩) hbX).trans (show wr.cell? ⟨b0, off + j * 8 + 7, none⟩ = some (.string x.data) from HX.out.2 7 (.string x.data) rfl)
        rw [hXe] at hX
        have H8 := Lib.hid (And.intro (HS1.out.below hb8) (And.intro hX (And.intro hb8 (And.intro ho hXe))))
        clear hcell2 hb8 hX hgl hbX ho hm
        go_upto_region 9 with fail
        try simp only [hXe]
        generalize wr.alloc (.cells #[.bool true, .int .i64 o.id, .int .i64 5, .int .i64 0, .int .i64 0, .int .i64 0, .string ⟨#[]⟩, .bool false, .int .i64 0, .string ⟨#[]⟩] 36) = w8 at *
        clear c1 e5 e6 hmask hk
        go_upto_if 57 with fail
        obtain ⟨tb, htb⟩ : ∃ tb, (o.what == 0) = tb := ⟨_, rfl⟩
        try rw [htb]
        clear htb c3 c3'
        go_cut [] (fun wx => ∃ s, s.size ≤ maxLen ∧ wx.heap[X]? = some (.cells #[.bool true, .int .i64 o.id, .int .i64 5, .int .i64 0, .int .i64 0, .int .i64 0, .string ⟨#[]⟩, .bool false, .int .i64 0, .string s] 36) ∧ Below X w8 wx)
        case first =>
          cases tb
          · go_wp2_with fail
            go_meet
            exact ⟨_, Nat.zero_le _, H8.out.2.1, Below.refl _ _⟩
          · have hvl := H8.out.1.vpos
            obtain ⟨r, hr⟩ : ∃ r : Nat, (x.data.size : Int).tmod (VS.length : Int) = (r : Int) := ⟨((x.data.size : Int).tmod (VS.length : Int)).toNat, by have := Int.tmod_nonneg (VS.length : Int) (show 0 ≤ (x.data.size : Int) by omega); omega⟩
            have hrl : r < VS.length := by
              have := Int.tmod_lt_of_pos (x.data.size : Int) (show 0 < (VS.length : Int) by omega)
              omega
            have hrl' : (r : Int) < (VS.length : Int) := by omega
            have hrn : ¬ (r : Int) < 0 := by omega
            have hvz : ¬ ((VS.length : Int) = 0) := by omega
            obtain ⟨s, hs⟩ : ∃ s, VS[r]? = some s := ⟨_, List.getElem?_eq_getElem hrl⟩
            obtain ⟨av, cv, he, hc1, hc2, hc3, hc4⟩ := SR.owns H8.out.1.vals
            injection he with he1 he2 he3
            subst he1 he3
            obtain ⟨vb, vo, rfl, hvb, hvc⟩ := hc4.resolve_left (by omega)
            have v0 : w8.cell? ⟨vb, vo + r, none⟩ = some (.string s) := hvc r (.string s) (by simp [sCS, hs])
            have x9 := cell_atF H8.out.2.1 9 (v := .string ⟨#[]⟩) rfl
            have xf : ∀ i, w8.frozen? ⟨X, i, none⟩ = false := fun i => by simp [World.frozen?, H8.out.2.1]
            have HV := Lib.hid (H8.out.1.vok s (List.mem_of_getElem? hs))
            clear hvc hc1 hc2 hc3 hc4 hvb hs
            go_wp2_with fail
            go_meet
            exact ⟨s, HV.out, heap_set_self H8.out.2.1 9 (.string s), (Below.refl _ _).setCell (p := ⟨X, 9, none⟩) (Nat.le_refl _) _⟩
        case rest =>
          obtain ⟨s, hs, hXs, hbs⟩ := hcut
          obtain ⟨w9, hw9⟩ : ∃ W0, W0 = wc := ⟨_, rfl⟩
          subst hw9
          obtain ⟨q, hq⟩ : ∃ q : Ev, q = ⟨true, o.id, 5, 0, 0, 0, ⟨#[]⟩, false, 0, s⟩ := ⟨_, rfl⟩
          have hS9 : SM N w n E O VS u3 (.slice (some ⟨g, go, none⟩) O.length pc) (.slice va VS.length vc) w9 := HS1.out.below (by rw [H8.out.2.2.2.2]; exact ((by rw [← H8.out.2.2.2.2]; exact H8.out.2.2.1 : Below X wr w8)).trans hbs)
          have HS9 := Lib.hid hS9
          have k0 := cell_atF hXs 0 (v := .bool true) rfl
          have k1 := cell_atF hXs 1 (v := .int .i64 o.id) rfl
          have k2 := cell_atF hXs 2 (v := .int .i64 5) rfl
          have k3 := cell_atF hXs 3 (v := .int .i64 0) rfl
          have k4 := cell_atF hXs 4 (v := .int .i64 0) rfl
          have k5 := cell_atF hXs 5 (v := .int .i64 0) rfl
          have k6 := cell_atF hXs 6 (v := .string ⟨#[]⟩) rfl
          have k7 := cell_atF hXs 7 (v := .bool false) rfl
          have k8 := cell_atF hXs 8 (v := .int .i64 0) rfl
          have k9 := cell_atF hXs 9 (v := .string s) rfl
          have HS := Lib.hid hs
          clear hS9 hs hXs hbs e7
          go_wp2_with (at_builtin; refine wp_appS Try.underlying23 hi hz0 hz1 hz2 rfl (by decide) rfl (.tmp 71) (.tmp 73) rfl N u3 E.length (evCS E) rfl ?c5 _ _ 1 (evCS [⟨true, o.id, 5, 0, 0, 0, ⟨#[]⟩, false, 0, s⟩]) rfl (SR.lit _ _ #[.bool true, .int .i64 o.id, .int .i64 5, .int .i64 0, .int .i64 0, .int .i64 0, .string ⟨#[]⟩, .bool false, .int .i64 0, .string s] 10 1 (by decide) rfl) (by decide) ?c1 ?c2 ?c3 ?c4 ?_)
          case c5 => exact owns_below HS9.out.out ((Below.refl _ _).alloc (Nat.le_refl _) _)
          case c1 => exact evC_oneS _
          case c2 => unfold maxLen; omega
          case c3 => omega
          case c4 => have := HS9.out.big; simp; omega
          intro ov' w11 hown hgr hblk
          have hoO := List.mem_of_getElem? H8.out.2.2.2.1
          have hoE := (HS9.out.sub o hoO).1
          have hT := (HS9.out.below ((Below.refl w9.heap.size w9).alloc (Nat.le_refl _) _)).tell hown hgr (by simpa using hblk) hoO rfl rfl rfl ⟨(HS9.out.j.ok o hoE).id, by show (Lit.int .i64 0).wf = true; decide, by show (Lit.int .i64 0).wf = true; decide, Nat.zero_le _, HS.out⟩
          have HT := Lib.hid hT
          clear hown hgr hblk hoO hoE hT k0 k1 k2 k3 k4 k5 k6 k7 k8 k9
          obtain ⟨M, hM⟩ : ∃ M, w11.heap.size = M := ⟨_, rfl⟩
          have hgM : g < M := by rw [← hM]; exact (own_ltS HT.out.opn rfl).2
          have hsk : SR w11 (.slice (some ⟨g, go, none⟩) k pc) 10 k (evCS (O.take k)) := sr_takeS (SR.owns HT.out.opn) rfl k (by omega)
          have hsd := sr_dropS (d := k + 1) (SR.owns HT.out.opn) rfl (by omega)
          have hlp : O.length ≤ pc := by obtain ⟨a', c', he', h1', -⟩ := SR.owns HT.out.opn; injection he' with _ _ he'; omega
          have hk14 : k ≤ 14 := by omega
          obtain ⟨dd, hdd⟩ : ∃ dd : Nat, k + 1 = dd := ⟨_, rfl⟩
          have hwd : IntKind.i64.wrap ((k : Int) + 1) = (dd : Int) := by rw [IntKind.wrap_i64]; omega
          have hk1 : (dd : Int) ≤ (O.length : Int) := by omega
          have hk2 : (dd : Int) ≤ (pc : Int) := by omega
          have hlp' : (O.length : Int) ≤ (pc : Int) := by omega
          have hkp : (k : Int) ≤ (pc : Int) := by omega
          rw [hdd] at hsd
          have HSK := Lib.hid (And.intro hsk (And.intro hsd (And.intro hM hdd)))
          have ho12 : (w11.alloc (.cells #[] 36)).drew.ownsRow M 36 10 (.slice (some ⟨w11.heap.size, 0, none⟩) 0 0) 0 [] := owns_below (World.ownsRow_lit (base := M) (e := 36) (size := 10) w11 #[] 0 (Nat.le_of_eq hM.symm) (by decide) rfl) (below_drew' (Below.refl _ _))
          rw [hM] at ho12
          have HO12 := Lib.hid ho12
          clear hsk hsd ho12 hdd
          go_upto_region 12 with fail
          have hpm : pc ≤ maxLen := by obtain ⟨a', c', he', h1', h2', -⟩ := SR.owns HT.out.opn; injection he' with _ _ he'; omega
          unfold maxLen at hpm
          by_cases hpc : pc = dd
          · subst hpc
            have HNIL := Lib.hid (show O.length - pc = 0 ∧ O.drop pc = [] from ⟨by omega, List.drop_eq_nil_of_le (by omega)⟩)
            go_region_held3 (fun _ => True) (exact trivial) (first | (refine step_app0S Try.underlying23 hi hz0 hz1 hz2 rfl (by decide) rfl (.tmp 75) (.tmp 78) rfl M (.slice (some ⟨M, 0, none⟩) 0 0) 0 [] rfl HO12.out _ k (evCS (O.take k)) rfl (HSK.out.1.below (by go_grown)) (evC_oneS _) (by unfold maxLen; omega) (by omega) (by simp; omega) ?_; intro v1 w1 hown1 hgr1) | (refine step_app0S Try.underlying23 hi hz0 hz1 hz2 rfl (by decide) rfl (.tmp 79) (.tmp 83) rfl M _ _ _ rfl (by assumption) _ 0 (evCS []) rfl ?_ (evC_oneS _) (by unfold maxLen; omega) (by omega) (Nat.le_trans (by simp; omega) hgr1.size) ?_; exact sr_nilS (by omega); intro v2 w2 hown2 hgr2))
            all_goals
              have HB1 := Lib.hid (And.intro hown1 (And.intro hgr1 (And.intro hown2 hgr2)))
              clear hown1 hgr1 hown2 hgr2
              have hF := Lib.hid (show SM N w n (E ++ [⟨true, o.id, 5, 0, 0, 0, ⟨#[]⟩, false, 0, s⟩]) (O.take k ++ O.drop pc) VS ov' v2 (.slice va VS.length vc) w2 from by
                obtain ⟨q1, q2, q3, q4⟩ := HB1.out
                obtain ⟨-, -, q5, q6⟩ := HSK.out
                have b0 : Below M w11 (w11.alloc (.cells #[] 36)).drew := below_drew' ((Below.refl _ _).alloc (Nat.le_of_eq q5.symm) _)
                have b1 : Below M w11 w1 := below_app b0 q2 HO12.out (Nat.le_refl _) (by simp; omega)
                have z1 : M ≤ w1.heap.size := Nat.le_trans (by simp; omega) q2.size
                have b2 : Below M w11 w2 := below_app b1 q4 q1 (Nat.le_refl _) z1
                refine HT.out.open_ (by rw [q5]; exact b2) (by rw [q5]; exact rowE_of q3 (by rw [List.length_append, List.length_take, List.length_drop]; omega) (by rw [evC_appS, HNIL.out.2]; rfl)) (fun y hy => ?_)
                rcases List.mem_append.1 hy with g1 | g1
                · exact List.mem_of_mem_take g1
                · exact List.mem_of_mem_drop g1)
              go_wp2_with fail
              go_roundw
              case rel => exact ⟨j + 1, n, by omega, by omega, rfl, by go_num, Lib.hid ⟨⟨_, _, VS, hF.out, by simp; omega, by rw [List.length_append, List.length_take, List.length_drop]; have := HSK.out.2.2.2; omega, by omega⟩, by omega⟩⟩
              case measure => exact meas_14 hi2
          · go_region_held3 (fun _ => True) (exact trivial) (first | (refine step_app0S Try.underlying23 hi hz0 hz1 hz2 rfl (by decide) rfl (.tmp 75) (.tmp 78) rfl M (.slice (some ⟨M, 0, none⟩) 0 0) 0 [] rfl HO12.out _ k (evCS (O.take k)) rfl (HSK.out.1.below (by go_grown)) (evC_oneS _) (by unfold maxLen; omega) (by omega) (by simp; omega) ?_; intro v1 w1 hown1 hgr1) | (refine step_app0S Try.underlying23 hi hz0 hz1 hz2 rfl (by decide) rfl (.tmp 79) (.tmp 83) rfl M _ _ _ rfl (by assumption) _ (O.length - dd) (evCS (O.drop dd)) rfl ?_ (evC_oneS _) (by unfold maxLen; omega) (by omega) (Nat.le_trans (by simp; omega) hgr1.size) ?_; exact sr_grownS (HSK.out.2.1.below (by go_grown)) hgr1 (fun g' e e2 => by have e3 : g = g' := Option.some.inj e; have e4 : M = g' := Option.some.inj e2; omega); intro v2 w2 hown2 hgr2))
            all_goals
              have HB1 := Lib.hid (And.intro hown1 (And.intro hgr1 (And.intro hown2 hgr2)))
              clear hown1 hgr1 hown2 hgr2
              have hF := Lib.hid (show SM N w n (E ++ [⟨true, o.id, 5, 0, 0, 0, ⟨#[]⟩, false, 0, s⟩]) (O.take k ++ O.drop dd) VS ov' v2 (.slice va VS.length vc) w2 from by
                obtain ⟨q1, q2, q3, q4⟩ := HB1.out
                obtain ⟨-, -, q5, q6⟩ := HSK.out
                have b0 : Below M w11 (w11.alloc (.cells #[] 36)).drew := below_drew' ((Below.refl _ _).alloc (Nat.le_of_eq q5.symm) _)
                have b1 : Below M w11 w1 := below_app b0 q2 HO12.out (Nat.le_refl _) (by simp; omega)
                have z1 : M ≤ w1.heap.size := Nat.le_trans (by simp; omega) q2.size
                have b2 : Below M w11 w2 := below_app b1 q4 q1 (Nat.le_refl _) z1
                refine HT.out.open_ (by rw [q5]; exact b2) (by rw [q5]; exact rowE_of q3 (by rw [List.length_append, List.length_take, List.length_drop]; omega) (by rw [evC_appS, List.nil_append])) (fun y hy => ?_)
                rcases List.mem_append.1 hy with g1 | g1
                · exact List.mem_of_mem_take g1
                · exact List.mem_of_mem_drop g1)
              go_wp2_with fail
              go_roundw
              case rel => exact ⟨j + 1, n, by omega, by omega, rfl, by go_num, Lib.hid ⟨⟨_, _, VS, hF.out, by simp; omega, by rw [List.length_append, List.length_take, List.length_drop]; have := HSK.out.2.2.2; omega, by omega⟩, by omega⟩⟩
              case measure => exact meas_14 hi2
      · have hno : x.tell = false ∨ (x.tell = true ∧ O.length = 0) := by
          cases h : x.tell
          · exact .inl rfl
          · exact .inr ⟨rfl, by rcases Nat.eq_zero_or_pos O.length with q | q; exact q; exact absurd ⟨h, q⟩ htl⟩
        rcases hno with h | ⟨h, hO⟩
        all_goals
          rw [h] at e5
          try (have hO' : ¬ ((0 : Int) < (O.length : Int)) := by omega)
          try (have HO0 := Lib.hid hO; clear hO)
          have e0 : wr.cell? ⟨b0, off + j * 8, none⟩ = some (.int .i64 x.W) := HX.out.2 0 (.int .i64 x.W) rfl
          have e1 : wr.cell? ⟨b0, off + j * 8 + 1, none⟩ = some (.int .i64 x.A) := HX.out.2 1 (.int .i64 x.A) rfl
          have e2 : wr.cell? ⟨b0, off + j * 8 + 2, none⟩ = some (.int .i64 x.L) := HX.out.2 2 (.int .i64 x.L) rfl
          have e3 : wr.cell? ⟨b0, off + j * 8 + 3, none⟩ = some (.string x.D) := HX.out.2 3 (.string x.D) rfl
          have e4 : wr.cell? ⟨b0, off + j * 8 + 4, none⟩ = some (.bool x.S) := HX.out.2 4 (.bool x.S) rfl
          have hxa := HX.out.1
          have hn14 : (n : Int) < 14 := by omega
          have co := anear4 x.W x.A x.L x.D x.S 1 ((n : Int) + 1) wr hxa.1 hxa.2.1 hxa.2.2.1 (by decide) (wf_of (by omega)) hxa.2.2.2.1
          unfold AskPost4 askA at co
          clear hxa
          go_wp2_with fail
          refine Calls.mono co ?_
          rintro e w5 ⟨W, A, L, D, S, rfl, q1, q2, q3, q4, q5, hb5⟩
          have hb6 : Below w5.heap.size w5 (w5.alloc (.cells #[.int .i64 W, .int .i64 A, .int .i64 L, .string D, .bool S] 33)) := (Below.refl _ _).alloc (Nat.le_refl _) _
          have HS6 := Lib.hid (HS1.out.below (hb5.trans (hb6.mono hb5.size)))
          have hX := heap_alloc_self w5 (.cells #[.int .i64 W, .int .i64 A, .int .i64 L, .string D, .bool S] 33)
          obtain ⟨X, hXe⟩ : ∃ X, w5.heap.size = X := ⟨_, rfl⟩
          rw [hXe] at hX
          have HX6 := Lib.hid hX
          have hb6' := hb6
          rw [hXe] at hb6'
          have HS5 := Lib.hid (And.intro (HS1.out.below hb5) (And.intro hb6' hXe))
          clear hb6'
          have HQ := Lib.hid (And.intro q1 (And.intro q2 (And.intro q3 (And.intro q4 (Lib.hid q5)))))
          clear co e0 e1 e2 e3 e4 e5 q1 q2 q3 q4 q5 hb5 hb6 hX
          go_upto_region 15 with fail
          try simp only [hXe]
          generalize w5.alloc (.cells #[.int .i64 W, .int .i64 A, .int .i64 L, .string D, .bool S] 33) = w6 at *
          clear hXe
          have k0 := cell_atF HX6.out 0 (v := .int .i64 W) rfl
          obtain ⟨t2, ht2⟩ : ∃ t2, (W == 2) = t2 := ⟨_, rfl⟩
          obtain ⟨t3, ht3⟩ : ∃ t3, (W == 3) = t3 := ⟨_, rfl⟩
          have HT2 := Lib.hid ht2
          go_cut [101] (fun s wx => s = .bool (t2 || t3) ∧ wx = w6)
          case first =>
            cases t2
            · go_wp2_with fail
              go_meet
              exact ⟨by simp, rfl⟩
            · go_wp2_with fail
              go_meet
              exact ⟨rfl, rfl⟩
          case rest =>
            obtain ⟨rfl, rfl⟩ := hcut
            obtain ⟨w7, hw7⟩ : ∃ W0, W0 = wc := ⟨_, rfl⟩
            subst hw7
            clear ht2 ht3 k0
            obtain ⟨tb, htb⟩ : ∃ tb, (t2 || t3) = tb := ⟨_, rfl⟩
            try rw [htb]
            have HTB := Lib.hid htb
            clear htb
            go_upto_if 101 with fail
            go_cut [] (fun wx => ∃ W' A' L' D' S', W' ≠ 2 ∧ (Lit.int .i64 A').wf = true ∧ (Lit.int .i64 L').wf = true ∧ D'.size ≤ maxLen ∧ (W' = 1 → ∃ m, MarkB ((n : Int) + 1) D' m) ∧ wx.heap[X]? = some (.cells #[.int .i64 W', .int .i64 A', .int .i64 L', .string D', .bool S'] 33) ∧ Below X w7 wx)
            case first =>
              have k0 := cell_atF HX6.out 0 (v := .int .i64 W) rfl
              have k1 := cell_atF HX6.out 1 (v := .int .i64 A) rfl
              have k2 := cell_atF HX6.out 2 (v := .int .i64 L) rfl
              have k3 := cell_atF HX6.out 3 (v := .string D) rfl
              have k4 := cell_atF HX6.out 4 (v := .bool S) rfl
              have kf : ∀ i, w7.frozen? ⟨X, i, none⟩ = false := fun i => by simp [World.frozen?, HX6.out]
              cases tb
              · go_wp2_with fail
                go_meet
                have hW2 : W ≠ 2 := fun e => by
                  have h1 := HTB.out
                  have h2 := HT2.out
                  rw [e] at h2
                  rw [← h2] at h1
                  cases h1
                exact ⟨W, A, L, D, S, hW2, HQ.out.2.1, HQ.out.2.2.1, HQ.out.2.2.2.1, HQ.out.2.2.2.2.out, HX6.out, Below.refl _ _⟩
              · go_wp2_with fail
                go_meet
                obtain ⟨z1, z2⟩ := five_setS (a' := .int .i64 0) (b' := .int .i64 0) (c' := .int .i64 32) (d' := .string ⟨#[]⟩) (e' := .bool false) HX6.out
                exact ⟨0, 0, 32, ⟨#[]⟩, false, by decide, by decide, by decide, Nat.zero_le _, (fun e => by cases e), z1, z2⟩
            case rest =>
              obtain ⟨W', A', L', D', S', r1, r2, r3, r4, r5, r6, r7⟩ := hcut
              obtain ⟨w8, hw8⟩ : ∃ W0, W0 = wc := ⟨_, rfl⟩
              subst hw8
              have HS8 := Lib.hid (HS5.out.1.below (by rw [HS5.out.2.2]; exact HS5.out.2.1.trans r7))
              have HX8 := Lib.hid r6
              have HR8 := Lib.hid (And.intro r1 (And.intro r2 (And.intro r3 (And.intro r4 (Lib.hid r5)))))
              clear r1 r2 r3 r4 r5 r6 r7
              have k0 := cell_atF HX8.out 0 (v := .int .i64 W') rfl
              go_upto_if 105 with fail
              obtain ⟨t4, ht4⟩ : ∃ t4, (W' == 1) = t4 := ⟨_, rfl⟩
              try rw [ht4]
              clear ht4 k0
              go_cut [6] (fun vv wx => ∃ VS', SM N w n E O VS' u3 (.slice pa O.length pc) vv wx ∧ VS'.length ≤ VS.length + 1 ∧ wx.heap[X]? = some (.cells #[.int .i64 W', .int .i64 A', .int .i64 L', .string D', .bool S'] 33))
              case first =>
                cases t4
                · go_wp2_with fail
                  go_meet
                  exact ⟨VS, HS8.out, Nat.le_succ _, HX8.out⟩
                · have k3 := cell_atF HX8.out 3 (v := .string D') rfl
                  go_wp2_with (at_builtin; refine wp_app Try.underlying45 his hs0 hs1 hs2 rfl (by decide) rfl (.tmp 106) (.tmp 109) rfl N (.slice va VS.length vc) VS.length (sCS VS) rfl (owns_below HS8.out.vals ((Below.refl _ _).alloc (Nat.le_refl _) _)) _ 1 (sCS [D']) rfl (SR.lit _ _ #[.string D'] 1 1 (by decide) rfl) (sC_oneS _) (by unfold maxLen; omega) (by omega) (by have := HS8.out.big; simp; omega) ?_; intro v' w10 hown hgr)
                  go_meet
                  have hal : Below w8.heap.size w8 (w8.alloc (.cells #[.string D'] 9)) := (Below.refl _ _).alloc (Nat.le_refl _) _
                  have hSa := HS8.out.below hal
                  have hXa := below_at hal (lt_heap HX8.out) HX8.out
                  refine ⟨VS ++ [D'], hSa.value hown hgr HR8.out.2.2.2.1, by simp, (hgr.block X (lt_heap hXa) (fun e => ?_)).trans hXa⟩
                  obtain ⟨c, hc⟩ := own_typeP hSa.vals e.symm
                  rw [hXa] at hc
                  injection hc with hc
                  injection hc with _ hc
                  exact absurd hc (by decide)
              case rest =>
                obtain ⟨VS', r1, r2, r3⟩ := hcut
                obtain ⟨w9, hw9⟩ : ∃ W0, W0 = wc := ⟨_, rfl⟩
                subst hw9
                have k0 := cell_atF r3 0 (v := .int .i64 W') rfl
                have k1 := cell_atF r3 1 (v := .int .i64 A') rfl
                have k2 := cell_atF r3 2 (v := .int .i64 L') rfl
                have k3 := cell_atF r3 3 (v := .string D') rfl
                have k4 := cell_atF r3 4 (v := .bool S') rfl
                have hal : Below w9.heap.size w9 (w9.alloc (.cells #[.bool false, .int .i64 ((n : Int) + 1), .int .i64 5, .int .i64 W', .int .i64 A', .int .i64 L', .string D', .bool S', .int .i64 0, .string ⟨#[]⟩] 36)) := (Below.refl _ _).alloc (Nat.le_refl _) _
                have hY := heap_alloc_self w9 (.cells #[.bool false, .int .i64 ((n : Int) + 1), .int .i64 5, .int .i64 W', .int .i64 A', .int .i64 L', .string D', .bool S', .int .i64 0, .string ⟨#[]⟩] 36)
                have hneA : u3.ownBlock ≠ some w9.heap.size := fun e => by have := (own_ltS r1.out e).2; omega
                have hneB : (Value.slice pa O.length pc).ownBlock ≠ some w9.heap.size := fun e => by have := (own_ltS r1.opn e).2; omega
                have HS10 := Lib.hid (r1.below hal)
                have hNM := (r1.below hal).big
                obtain ⟨Y, hYe⟩ : ∃ Y, w9.heap.size = Y := ⟨_, rfl⟩
                rw [hYe] at hY hneA hneB
                have HVL := Lib.hid r2
                clear r1 r2 r3 hal
                go_upto_region 20 with fail
                try simp only [hYe]
                generalize w9.alloc (.cells #[.bool false, .int .i64 ((n : Int) + 1), .int .i64 5, .int .i64 W', .int .i64 A', .int .i64 L', .string D', .bool S', .int .i64 0, .string ⟨#[]⟩] 36) = w10 at *
                clear k0 k1 k2 k3 k4 hYe
                have y0 := cell_atF hY 0 (v := .bool false) rfl
                have y1 := cell_atF hY 1 (v := .int .i64 ((n : Int) + 1)) rfl
                have y2 := cell_atF hY 2 (v := .int .i64 5) rfl
                have y3 := cell_atF hY 3 (v := .int .i64 W') rfl
                have y4 := cell_atF hY 4 (v := .int .i64 A') rfl
                have y5 := cell_atF hY 5 (v := .int .i64 L') rfl
                have y6 := cell_atF hY 6 (v := .string D') rfl
                have y7 := cell_atF hY 7 (v := .bool S') rfl
                have y8 := cell_atF hY 8 (v := .int .i64 0) rfl
                have y9 := cell_atF hY 9 (v := .string ⟨#[]⟩) rfl
                obtain ⟨M, hM⟩ : ∃ M, w10.heap.size = M := ⟨_, rfl⟩
                have hYM : Y < M := by rw [← hM]; exact lt_heap hY
                rw [hM] at hNM
                have l0 := SR.lit w10 36 #[.bool false, .int .i64 ((n : Int) + 1), .int .i64 5, .int .i64 W', .int .i64 A', .int .i64 L', .string D', .bool S', .int .i64 0, .string ⟨#[]⟩] 10 1 (by decide) rfl
                have l1 := SR.lit (w10.alloc (.cells #[.bool false, .int .i64 ((n : Int) + 1), .int .i64 5, .int .i64 W', .int .i64 A', .int .i64 L', .string D', .bool S', .int .i64 0, .string ⟨#[]⟩] 36)) 36 #[.bool false, .int .i64 ((n : Int) + 1), .int .i64 5, .int .i64 W', .int .i64 A', .int .i64 L', .string D', .bool S', .int .i64 0, .string ⟨#[]⟩] 10 1 (by decide) rfl
                rw [show (w10.alloc (.cells #[.bool false, .int .i64 ((n : Int) + 1), .int .i64 5, .int .i64 W', .int .i64 A', .int .i64 L', .string D', .bool S', .int .i64 0, .string ⟨#[]⟩] 36)).heap.size = M + 1 by simp [hM]] at l1
                rw [hM] at l0
                have LL := Lib.hid (And.intro l0 l1)
                have HM := Lib.hid hM
                clear l0 l1 hY
                have NEA := Lib.hid (show ∀ g, u3.ownBlock = some g → (Value.slice pa O.length pc).ownBlock ≠ some g from HS10.out.ap)
                have NEB := Lib.hid (show ∀ g, (Value.slice pa O.length pc).ownBlock = some g → u3.ownBlock ≠ some g from fun g e e2 => HS10.out.ap g e2 e)
                have NL0A := Lib.hid (show ∀ g, (Value.slice (some ⟨M, 0, none⟩) 1 1).ownBlock = some g → u3.ownBlock ≠ some g from fun g e e2 => by have e3 : M = g := Option.some.inj e; have e4 := (own_ltS HS10.out.out e2).2; have e5 := HM.out; omega)
                have NL1A := Lib.hid (show ∀ g, (Value.slice (some ⟨M + 1, 0, none⟩) 1 1).ownBlock = some g → u3.ownBlock ≠ some g from fun g e e2 => by have e3 : M + 1 = g := Option.some.inj e; have e4 := (own_ltS HS10.out.out e2).2; have e5 := HM.out; omega)
                have NL0B := Lib.hid (show ∀ g, (Value.slice (some ⟨M, 0, none⟩) 1 1).ownBlock = some g → (Value.slice pa O.length pc).ownBlock ≠ some g from fun g e e2 => by have e3 : M = g := Option.some.inj e; have e4 := (own_ltS HS10.out.opn e2).2; have e5 := HM.out; omega)
                have NL1B := Lib.hid (show ∀ g, (Value.slice (some ⟨M + 1, 0, none⟩) 1 1).ownBlock = some g → (Value.slice pa O.length pc).ownBlock ≠ some g from fun g e e2 => by have e3 : M + 1 = g := Option.some.inj e; have e4 := (own_ltS HS10.out.opn e2).2; have e5 := HM.out; omega)
                go_region_held3 (fun w' => M ≤ w'.heap.size ∧ ∀ o, w'.cell? ⟨Y, o, none⟩ = w10.cell? ⟨Y, o, none⟩) (first | exact ys_start HM.out | exact ys_alloc (by assumption) hYM | exact ys_app (by assumption) (by assumption) hYM hneA | exact ys_app (by assumption) (by assumption) hYM hneB) (first | (refine step_appS Try.underlying23 hi hz0 hz1 hz2 rfl (by decide) rfl (.tmp 114) (.tmp 116) rfl N u3 E.length (evCS E) rfl ?_ _ _ 1 (evCS [⟨false, (n : Int) + 1, 5, W', A', L', D', S', 0, ⟨#[]⟩⟩]) rfl ?_ (evC_oneS _) (by unfold maxLen; omega) (by omega) (baseS (by assumption) hNM) (by decide) ?_; (first | focus (refine owns_below HS10.out.out ?_; go_grown; done) | focus (refine owns_below (own_grownS (owns_below HS10.out.out ?_) hgrB NEA.out) ?_ <;> go_grown; done)); (first | focus (refine SR.lit _ _ #[.bool false, .int .i64 ((n : Int) + 1), .int .i64 5, .int .i64 W', .int .i64 A', .int .i64 L', .string D', .bool S', .int .i64 0, .string ⟨#[]⟩] 10 1 ?_ ?_; decide; rfl; done) | focus (refine SR.below LL.out.1 ?_; go_grown; done) | focus (refine SR.below LL.out.2 ?_; go_grown; done) | focus (refine sr_grownS (SR.below LL.out.1 ?_) hgrB NL0B.out; go_grown; done) | focus (refine sr_grownS (SR.below LL.out.2 ?_) hgrB NL1B.out; go_grown; done)); intro vA wA hownA hgrA hblkA) | (refine step_appS Try.underlying23 hi hz0 hz1 hz2 rfl (by decide) rfl (.tmp 118) (.tmp 120) rfl N (.slice pa O.length pc) O.length (evCS O) rfl ?_ _ _ 1 (evCS [⟨false, (n : Int) + 1, 5, W', A', L', D', S', 0, ⟨#[]⟩⟩]) rfl ?_ (evC_oneS _) (by unfold maxLen; omega) (by omega) (baseS (by assumption) hNM) (by decide) ?_; (first | focus (refine owns_below HS10.out.opn ?_; go_grown; done) | focus (refine owns_below (own_grownS (owns_below HS10.out.opn ?_) hgrA NEB.out) ?_ <;> go_grown; done)); (first | focus (refine SR.lit _ _ #[.bool false, .int .i64 ((n : Int) + 1), .int .i64 5, .int .i64 W', .int .i64 A', .int .i64 L', .string D', .bool S', .int .i64 0, .string ⟨#[]⟩] 10 1 ?_ ?_; decide; rfl; done) | focus (refine SR.below LL.out.1 ?_; go_grown; done) | focus (refine SR.below LL.out.2 ?_; go_grown; done) | focus (refine sr_grownS (SR.below LL.out.1 ?_) hgrA NL0A.out; go_grown; done) | focus (refine sr_grownS (SR.below LL.out.2 ?_) hgrA NL1A.out; go_grown; done)); intro vB wB hownB hgrB hblkB))
                all_goals
                  have HF := Lib.hid (show SM N w (n + 1) (E ++ [⟨false, (n : Int) + 1, 5, W', A', L', D', S', 0, ⟨#[]⟩⟩]) (O ++ [⟨false, (n : Int) + 1, 5, W', A', L', D', S', 0, ⟨#[]⟩⟩]) VS' vA vB _ _ from by
                    have hok : EvOk ⟨false, (n : Int) + 1, 5, W', A', L', D', S', 0, ⟨#[]⟩⟩ := ⟨wf_of (by show (-9223372036854775808 : Int) ≤ (n : Int) + 1 ∧ (n : Int) + 1 ≤ 9223372036854775807; omega), HR8.out.2.1, HR8.out.2.2.1, HR8.out.2.2.2.1, Nat.zero_le _⟩
                    first
                      | (refine HS10.out.asked ?_ hownA hgrA hblkA ?_ hownB hgrB hblkB rfl rfl HR8.out.1 HR8.out.2.2.2.2.out hok <;> go_grown; done)
                      | (refine HS10.out.asked2 ?_ hownB hgrB hblkB ?_ hownA hgrA hblkA rfl rfl HR8.out.1 HR8.out.2.2.2.2.out hok <;> go_grown; done))
                  clear hownA hgrA hblkA hownB hgrB hblkB y0 y1 y2 y3 y4 y5 y6 y7 y8 y9
                  go_wp2_with fail
                  go_roundw
                  case rel => exact ⟨j + 1, n + 1, by omega, by omega, by go_num, by go_num, Lib.hid ⟨⟨_, _, VS', HF.out, by simp; omega, by simp; omega, by have := HVL.out; omega⟩, by omega⟩⟩
                  case measure => exact meas_14 hi2
    · have hout : ¬ ((j : Int) < (len : Int) ∧ (j : Int) < 14) := fun h => hin ⟨by omega, h.2⟩
      go_wp2_with fail
      all_goals
        go_ret
        obtain ⟨E, O, VS, HS0, hEj, hOj, hVj⟩ := HRel.out.ex
        have := HRel.out.le
        exact ⟨_, E, n, rfl, by rw [hN]; exact HS0.out, HS0.j, by omega, by omega, HS0.low.mono (Nat.le_of_eq hN)⟩
end Go.Proofs.Ytodjlaapmbnahaa
