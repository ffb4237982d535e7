/-
  Several texts, laid together.
-/
import Derived.Test.YtgnnijpfkgmomaaGreatDoorMh14
import Derived.Deep.RegionHeld3
/-
  journal: load: what the records of an area come to.
-/


namespace Go.Proofs.YtgnnijpfkgmomaaGreatDoor
open Go.RowKit
set_option linter.unusedVariables false
set_option linter.unusedSimpArgs false

theorem size_run : ∀ (os : List JO) (l : List JP), Srt l → sizeJ (runJ l os) ≤ sizeJ l + lenJ os
  | [], l, _ => Nat.le_add_right _ _
  | o :: os, l, h => by
    have hs : Srt (o.do l) := by
      show Srt (if o.g = true then cutK l o.k else setK l o.k o.v)
      split
      · exact srt_cut h _
      · exact srt_set h _ _
    have h1 : sizeJ (o.do l) ≤ sizeJ l + o.b.length := by
      show sizeJ (if o.g = true then cutK l o.k else setK l o.k o.v) ≤ _
      split
      · have := size_cut h o.k
        omega
      · rename_i hg
        have e : (recS ⟨o.k, o.v⟩).size = o.b.length := by
          rw [recS_len]
          have : (⟨o.k, o.v, false⟩ : JO) = o := by
            cases o with
            | mk k v g => simp at hg; simp [hg]
          rw [this]
        rcases set_sizes h o.k o.v with ⟨_, e2⟩ | ⟨x, _, _, e2, _⟩
        · omega
        · omega
    have h2 := size_run os (o.do l) hs
    have h3 : lenJ (o :: os) = o.b.length + lenJ os := by unfold lenJ; rw [List.flatMap_cons, List.length_append]
    show sizeJ (runJ (o.do l) os) ≤ _
    omega
theorem Only.tk {b : Nat} {w w' : World} {r : RS} (h : Only b w w') (hs : Src w b r) : TK w w' [89] := by
  intro k c t z hk ht
  refine (h.block k (lt_heap hk) fun e => ?_).trans hk
  subst e
  unfold Src at hs
  rw [hk] at hs
  injection hs with hs
  injection hs with _ h2
  exact ht (by rw [h2]; simp)
theorem jbool (b : Nat) (c : UInt8) (rest : List UInt8) (w : World) (hc : c = 110 ∨ c = 121) (h : Src w b ⟨c :: rest, 0⟩) :
    Calls Tryz.prog 61 #[.pointer (some ⟨b, 0, none⟩)] w fun e w' => e = .returned (.bool (decide (c = 121))) ∧ Src w' b ⟨rest, 0⟩ ∧ Only b w w' := by
  have ct := take_src b ⟨c :: rest, 0⟩ 1 w h
  have h1 : (⟨c :: rest, 0⟩ : RS).takeB 1 = [c] := takeB_ok (c :: rest) 1 (by simp)
  have h2 : (⟨c :: rest, 0⟩ : RS).takeS 1 = ⟨rest, 0⟩ := takeS_ok (c :: rest) 1 (by simp)
  rw [h1, h2] at ct
  clear h1 h2 h
  rcases hc with rfl | rfl
  · go_enter Tryz.func61, Tryz.ntmps61
    go_wp2_with fail
    refine Calls.mono ct ?_
    rintro e w1 ⟨rfl, hs, ho⟩
    have HS := Lib.hid (And.intro hs ho)
    clear hs ho
    go_wp2_with fail
    go_ret
    exact ⟨ret_bool rfl, HS.out.1, HS.out.2⟩
  · go_enter Tryz.func61, Tryz.ntmps61
    go_wp2_with fail
    refine Calls.mono ct ?_
    rintro e w1 ⟨rfl, hs, ho⟩
    have HS := Lib.hid (And.intro hs ho)
    clear hs ho
    go_wp2_with fail
    go_ret
    exact ⟨ret_bool rfl, HS.out.1, HS.out.2⟩
theorem jtext (b : Nat) (k : ByteArray) (rest : List UInt8) (L : Int) (w : World) (hL : (k.size : Int) ≤ L) (h16 : k.size ≤ 65536) (h : Src w b ⟨textL k ++ rest, 0⟩) :
    Calls Tryz.prog 62 #[.pointer (some ⟨b, 0, none⟩), .int .i64 L] w fun e w' => e = .returned (.string k) ∧ Src w' b ⟨rest, 0⟩ ∧ Only b w w' := by
  have c := text_src b ⟨textL k ++ rest, 0⟩ L w h
  obtain ⟨t1, t2⟩ := text_get k rest L hL h16
  rw [t1, t2, bL_back] at c
  exact c
/-- the records of the area that is written, read -/
theorem jreads {w : World} {N q : Nat} {sv lvd : Value} {S : List ByteArray} {s : DS} {last : ByteArray} (hd : Dsk w N q sv lvd S []) (hx : DX S s last) :
    Calls Tryz.prog 60 #[.pointer (some ⟨q, 0, none⟩), areaV ((2 + s.now * manyN s.n : Nat) : Int) ((manyN s.n : Nat) : Int), .int .i64 0, .int .i64 (lenJ s.rs)] w fun e w' => e = .returned (.tuple #[.string ⟨(s.rs.flatMap JO.b).toArray⟩, .int .i64 0]) ∧ Below w.heap.size w w' := by
  have h6 := hx.least
  have h1000 := hx.most
  have hnow := hx.now
  have hroom := hx.room
  have hby := hx.bytes
  have hlen := hx.len
  have hm : manyN s.n = (s.n - 2) / 2 := rfl
  generalize manyN s.n = m at *
  have hnm : s.now * m ≤ m := by
    have : s.now = 0 ∨ s.now = 1 := by omega
    rcases this with e | e <;> rw [e] <;> omega
  generalize hF : 2 + s.now * m = F at *
  have hwi : withinA F m (0 : Nat) (lenJ s.rs) = true := by
    unfold withinA
    have hmay : mayA F m = true := (mayA_iff _ _).2 (by omega)
    have hb : bytesA F m = 64 * (m : Int) := by unfold bytesA; rw [if_pos hmay]
    rw [hmay, hb]
    simp only [Bool.true_and, Bool.and_eq_true, decide_eq_true_eq]
    omega
  have c : Calls Tryz.prog 60 #[.pointer (some ⟨q, 0, none⟩), areaV F m, .int .i64 0, .int .i64 (lenJ s.rs)] w (ARead w S [] (64 * F + 0) (lenJ s.rs)) := aread F m 0 (lenJ s.rs) w N q sv lvd S [] hd (by simp) hwi
  refine c.mono ?_
  rintro e w' ⟨r, l, rfl, hg, -, hr, hb⟩
  obtain rfl := hr (by rw [hlen]; omega)
  obtain ⟨g1, g2⟩ := hg rfl
  have e : l = s.rs.flatMap JO.b := by
    apply List.ext_getElem?
    intro j
    by_cases hj : j < lenJ s.rs
    · have h2 := g2 j hj
      rw [Nat.add_zero, hby j hj] at h2
      rw [List.getD_eq_getElem?_getD, List.getD_eq_getElem?_getD] at h2
      have hj2 : j < (s.rs.flatMap JO.b).length := hj
      rw [List.getElem?_eq_getElem (by omega), List.getElem?_eq_getElem hj2] at h2 ⊢
      simpa using h2
    · have hj2 : ¬ j < (s.rs.flatMap JO.b).length := hj
      rw [List.getElem?_eq_none (by omega), List.getElem?_eq_none (by omega)]
  rw [e]
  exact ⟨rfl, hb⟩
end Go.Proofs.YtgnnijpfkgmomaaGreatDoor
/-
  journal: load, the walk.
-/

namespace Go.Proofs.YtgnnijpfkgmomaaGreatDoor
open Go.RowKit
set_option linter.unusedVariables false
set_option linter.unusedSimpArgs false

theorem jm_mono {w : World} {N N' p : Nat} {dv pv lv : Value} {sz now used told : Int} {l : List JP} (h : JM w N p dv pv sz lv now used told l) (hN : N' ≤ N) : JM w N' p dv pv sz lv now used told l := by
  refine ⟨Nat.le_trans hN h.1, h.2.1, h.2.2.1, h.2.2.2.imp id ?_⟩
  rintro ⟨g, cap, cur, e, hg, r⟩
  exact ⟨g, cap, cur, e, Nat.le_trans hN hg, r⟩
/-- where load has come to: so much is done, and so much still lies in the source -/
structure LdR (w wr : World) (N p X : Nat) (dv lv pv : Value) (now used told : Int) (dn td : List JO) : Prop where
  jm : JM wr N p dv pv (sizeJ (runJ [] dn)) lv now used told (runJ [] dn)
  src : Src wr X ⟨td.flatMap JO.b, 0⟩
  below : Below N w wr
theorem LdR.only {w wr wz : World} {N p X : Nat} {dv lv pv : Value} {now used told : Int} {dn td : List JO} (h : LdR w wr N p X dv lv pv now used told dn td) (ho : Only X wr wz) (hX : N ≤ X) : JM wz N p dv pv (sizeJ (runJ [] dn)) lv now used told (runJ [] dn) ∧ Below N w wz :=
  ⟨h.jm.tk (ho.tk h.src) (by decide) (by decide), h.below.trans (ho.below hX (Nat.le_trans h.jm.1 (Nat.le_of_lt (lt_heap h.jm.2.1))))⟩
theorem src_okept {w w' : World} {N p X n : Nat} {pv pv' : Value} {cs : Array Value} {xs : List Value} {r : RS} (h : Src w X r) (ho : OKept w w' N p pv pv') (hp : w.heap[p]? = some (.cells cs 64)) (hr : w.ownsRow N 43 2 pv n xs) : Src w' X r :=
  ho.tk hp hr X _ _ _ h (by decide)
set_option maxHeartbeats 4000000 in
set_option maxRecDepth 100000 in
theorem jload {w : World} {N ND p q : Nat} {dv lv pv sv lvd : Value} {S : List ByteArray} {s : DS} {last : ByteArray} {told : Int} (hdv : dv = .pointer (some ⟨q, 0, none⟩)) (hd : Dsk w ND q sv lvd S []) (hx : DX S s last)
    (hj : JM w N p dv pv 0 lv s.now (lenJ s.rs) told []) :
    Calls Tryz.prog 34 #[.pointer (some ⟨p, 0, none⟩)] w fun e w' => e = .returned (.bool true) ∧ ∃ pv', JM w' N p dv pv' (sizeJ (runJ [] s.rs)) lv s.now (lenJ s.rs) told (runJ [] s.rs) ∧ Below N w w' := by
  obtain ⟨M, hM⟩ : ∃ M, w.heap.size = M := ⟨_, rfl⟩
  have HM := Lib.hid hM
  have c0 : w.cell? ⟨p, 0, none⟩ = some dv := (jm_cells hj).1
  have c4 : w.cell? ⟨p, 4, none⟩ = some (.int .i64 s.now) := by simp [World.cell?, hj.2.1, jC]
  have c5 : w.cell? ⟨p, 5, none⟩ = some (.int .i64 (lenJ s.rs)) := by simp [World.cell?, hj.2.1, jC]
  have hpM : p < M := by rw [← hM]; exact lt_heap hj.2.1
  subst hdv
  have cA : ∀ w', (M ≤ w'.heap.size ∧ Below M w w' ∧ ∀ b o, b < M → w'.cell? ⟨b, o, none⟩ = w.cell? ⟨b, o, none⟩) → Calls Tryz.prog 29 #[.pointer (some ⟨p, 0, none⟩), .int .i64 s.now] w' fun e w'' => e = .returned (areaV ((2 + s.now * manyN s.n : Nat) : Int) ((manyN s.n : Nat) : Int)) ∧ Stays M w' w'' := fun w' h =>
    (jarea w' ND p q s.now s.n sv lvd S [] ((h.2.2 p 0 hpM).trans c0) (hd.below (by rw [hM]; exact h.2.1)) hx.len (by have := hx.least; omega) hx.now).mono fun e w'' q => ⟨q.1, stays_of h.1 q.2⟩
  have cR : ∀ w', (M ≤ w'.heap.size ∧ Below M w w' ∧ ∀ b o, b < M → w'.cell? ⟨b, o, none⟩ = w.cell? ⟨b, o, none⟩) → Calls Tryz.prog 60 #[.pointer (some ⟨q, 0, none⟩), areaV ((2 + s.now * manyN s.n : Nat) : Int) ((manyN s.n : Nat) : Int), .int .i64 0, .int .i64 (lenJ s.rs)] w' fun e w'' => e = .returned (.tuple #[.string ⟨(s.rs.flatMap JO.b).toArray⟩, .int .i64 0]) ∧ Stays M w' w'' := fun w' h =>
    (jreads (hd.below (by rw [hM]; exact h.2.1)) hx).mono fun e w'' q => ⟨q.1, stays_of h.1 q.2⟩
  unfold areaV at cA cR
  obtain ⟨TX, hTX⟩ : ∃ T : ByteArray, (⟨(s.rs.flatMap JO.b).toArray⟩ : ByteArray) = T := ⟨_, rfl⟩
  rw [hTX] at cR
  have HTX := Lib.hid hTX
  have HD := Lib.hid hx
  have HJ := Lib.hid hj
  generalize ((2 + s.now * manyN s.n : Nat) : Int) = F at *
  generalize ((manyN s.n : Nat) : Int) = mm at *
  obtain ⟨now, hnow⟩ : ∃ now : Int, ((s.now : Nat) : Int) = now := ⟨_, rfl⟩
  obtain ⟨us, hus⟩ : ∃ us : Int, ((lenJ s.rs : Nat) : Int) = us := ⟨_, rfl⟩
  rw [hnow] at c4 HJ ⊢
  rw [hus] at c5 HJ ⊢
  simp only [hnow] at cA
  simp only [hus] at cR
  clear hd hx hj hM hTX hnow hus
  go_enter Tryz.func34, Tryz.ntmps34
  go_upto_region 1 with fail
  go_region_held3 (fun w' => M ≤ w'.heap.size ∧ Below M w w' ∧ ∀ b o, b < M → w'.cell? ⟨b, o, none⟩ = w.cell? ⟨b, o, none⟩) (first | exact keeps_start HM.out | exact keeps_next (by assumption) hz) (first | (go_at_call 29; (with_reducible refine Calls.mono (cA _ (by assumption)) ?_); rintro e wz ⟨rfl, hz⟩) | (go_at_call 60; (with_reducible refine Calls.mono (cR _ (by assumption)) ?_); rintro e wz ⟨rfl, hz⟩))
  all_goals
    rename_i hfin
    have HF := Lib.hid hfin
    clear hfin
    have hbz : Below w.heap.size w wz := by rw [HM.out]; exact HF.out.2.1
    have hNM : N ≤ M := Nat.le_trans HJ.out.1 (Nat.le_of_lt hpM)
    have hjz := HJ.out.below hbz
    have hx := heap_alloc_self wz (.cells #[.string TX, .int .i64 0] 89)
    have hb0 : Below wz.heap.size wz (wz.alloc (.cells #[.string TX, .int .i64 0] 89)) := (Below.refl _ _).alloc (Nat.le_refl _) _
    have hX : N ≤ wz.heap.size := Nat.le_trans hNM HF.out.1
    have hstart : LdR w (wz.alloc (.cells #[.string TX, .int .i64 0] 89)) N p wz.heap.size (.pointer (some ⟨q, 0, none⟩)) lv pv now us told [] s.rs :=
      ⟨hjz.below hb0, by unfold Src; rw [HTX.out]; exact hx, (hbz.mono (by rw [HM.out]; exact hNM)).trans (hb0.mono hX)⟩
    have HS := Lib.hid hstart
    have HX := Lib.hid hX
    obtain ⟨X, hXe⟩ : ∃ X, wz.heap.size = X := ⟨_, rfl⟩
    rw [hXe] at HS HX
    have cF := from_any TX wz
    rw [hXe] at cF
    clear hbz hjz hx hb0 hX hstart cA cR c0 c4 c5
    go_wp2_with fail
    refine Calls.mono cF ?_
    rintro e w2 ⟨rfl, rfl⟩
    generalize wz.alloc (.cells #[.string TX, .int .i64 0] 89) = w2 at *
    clear cF HF hXe
    go_wp2_with fail
    go_loopw [6, 7, 8] (fun _ _ _ wr => ∃ dn td pv', s.rs = dn ++ td ∧ LdR w wr N p X (.pointer (some ⟨q, 0, none⟩)) lv pv' now us told dn td) (fun _ _ _ wr => match wr.cell? ⟨X, 0, none⟩ with | some (.string t) => t.size | _ => 0)
    case atStart => exact ⟨[], s.rs, pv, rfl, HS.out⟩
    case round =>
      obtain ⟨dn, td, pv', hsp, hld⟩ := hrel
      have HSP := Lib.hid hsp
      have HLD := Lib.hid hld
      have hc0 := hld.src.c0
      have hms : wr.cell? ⟨X, 0, none⟩ = some (.string ⟨(td.flatMap JO.b).toArray⟩) := hc0
      cases td with
      | nil =>
        have cl := left_some X [] wr hc0
        clear hld hsp hc0 hms
        go_wp2_with fail
        refine Calls.mono cl ?_
        rintro e w3 ⟨rfl, rfl⟩
        go_wp2_with fail
        go_returns
        have hdn : s.rs = dn := by have := HSP.out; rw [List.append_nil] at this; exact this
        rw [hdn]
        exact ⟨rfl, pv', HLD.out.jm, HLD.out.below⟩
      | cons o td =>
        have hok := HD.out.ok o (by rw [hsp]; simp)
        have hsrt : Srt (runJ [] dn) := srt_run _ _ srt_nil
        have hlen : lenJ s.rs = lenJ dn + (o.b.length + lenJ td) := by
          rw [hsp, lenJ_app]
          unfold lenJ
          rw [List.flatMap_cons, List.length_append]
        have hsz := size_run dn [] srt_nil
        have hroom := HD.out.room
        have hm1000 := HD.out.most
        have hmm : manyN s.n = (s.n - 2) / 2 := rfl
        have hsz0 : sizeJ [] = 0 := rfl
        have hszb : sizeJ (runJ [] dn) ≤ 31936 := by omega
        have hlb := len_sizeJ (runJ [] dn)
        have hoks : ∀ x ∈ runJ [] dn, 1 ≤ x.k.size ∧ x.k.size ≤ 32 ∧ x.v.size ≤ 8192 := run_ok (fun y hy => HD.out.ok y (by rw [hsp]; simp [hy])) (fun x hx => by cases hx)
        have hoks2 : ∀ x ∈ runJ [] dn, x.k.size ≤ 1073741824 ∧ x.v.size ≤ 1073741824 := fun x hx => ⟨by have := hoks x hx; omega, by have := hoks x hx; omega⟩
        have HSZ := Lib.hid (And.intro hsrt (And.intro hszb (And.intro hlb hoks2)))
        have hsp2 : s.rs = (dn ++ [o]) ++ td := by rw [hsp]; simp
        have HSP2 := Lib.hid hsp2
        clear hsrt hlen hsz hroom hm1000 hmm hsz0 hszb hlb hoks hoks2 hsp hsp2
        have hmay : mayK o.k = true := by unfold mayK; simp [hok.1, hok.2.1]
        have cM := fun w => jmay o.k w
        rw [hmay] at cM
        have hsrc := hld.src
        have hbl : ∃ c rest, (o :: td).flatMap JO.b = c :: rest ∧ (c = 110 ∨ c = 121) ∧ (decide (c = 121) = o.g) ∧ rest = (if o.g then textL o.k else textL o.k ++ textL o.v) ++ td.flatMap JO.b := by
          rw [List.flatMap_cons]
          unfold JO.b
          split
          · rename_i hg
            exact ⟨121, _, rfl, .inr rfl, by rw [hg]; rfl, by simp⟩
          · rename_i hg
            exact ⟨110, _, rfl, .inl rfl, by simp at hg; rw [hg]; rfl, by simp⟩
        obtain ⟨c, rest, hcr, hc1, hc2, hrest⟩ := hbl
        rw [hcr] at hsrc hms hc0
        have cL := left_some X (c :: rest) wr hsrc.c0
        have cB := jbool X c rest wr hc1 hsrc
        rw [hc2] at cB
        have hpos : (0 : Int) < ((c :: rest).length : Nat) := by simp only [List.length_cons]; omega
        obtain ⟨LL, hLL⟩ : ∃ LL, (c :: rest).length = LL := ⟨_, rfl⟩
        rw [hLL] at cL hpos
        have HLL := Lib.hid (And.intro hLL hcr)
        have HMS := Lib.hid hms
        clear hcr hc2 hLL hc0 hms hmay hld hsrc hc1
        by_cases hg : o.g = true
        · rw [if_pos hg] at hrest
          subst hrest
          rw [hg] at cB
          go_wp2_with fail
          refine Calls.mono cL ?_
          rintro e w3 ⟨rfl, rfl⟩
          go_wp2_with fail
          refine Calls.mono cB ?_
          rintro e w3 ⟨rfl, hs3, ho3⟩
          have ct := jtext X o.k _ 32 w3 (by have := hok.2.1; omega) (by have := hok.2.1; omega) hs3
          have H3 := Lib.hid ho3
          clear cB cL hs3 ho3 hpos
          go_wp2_with fail
          refine Calls.mono ct ?_
          rintro e w4 ⟨rfl, hs4, ho4⟩
          have ce := err_some X 0 w4 hs4.c1
          have hjb := HLD.out.only (H3.out.trans ho4) HX.out
          have HJ4 := Lib.hid (And.intro hjb hs4)
          have cc := jcut w4 N p _ pv' lv now us told _ hjb.1 HSZ.out.1 (by have := HSZ.out; omega) (by have := HSZ.out; omega) HSZ.out.2.2.2 o.k
          clear ct hs4 ho4 hjb
          go_wp2_with fail
          refine Calls.mono ce ?_
          rintro e w5 ⟨rfl, rfl⟩
          go_wp2_with fail
          refine Calls.mono (cM _) ?_
          rintro e w5 ⟨rfl, rfl⟩
          go_wp2_with fail
          refine Calls.mono cc ?_
          rintro e w5 ⟨rfl, pv2, hj5, ho5⟩
          have hs5 := src_okept HJ4.out.2 ho5 HJ4.out.1.1.2.1 HJ4.out.1.1.2.2
          have hrun : cutK (runJ [] dn) o.k = runJ [] (dn ++ [o]) := by rw [runJ_snoc]; unfold JO.do; rw [if_pos hg]
          have HL5 := Lib.hid (show LdR w w5 N p X (.pointer (some ⟨q, 0, none⟩)) lv pv2 now us told (dn ++ [o]) td from ⟨by rw [← hrun]; exact hj5, hs5, HJ4.out.1.2.trans ho5.below⟩)
          have hm5 := hs5.c0
          have HM5 := Lib.hid hm5
          clear cc ce hj5 ho5 hs5 hrun hm5
          go_wp2_with fail
          go_roundw
          case rel => exact ⟨dn ++ [o], td, pv2, HSP2.out, HL5.out⟩
          case measure =>
            have h1 := HM5.out
            have h2 := HMS.out
            rw [h1, h2]
            show (td.flatMap JO.b).toArray.size < (c :: (textL o.k ++ td.flatMap JO.b)).toArray.size
            simp
            omega
        · have hg0 : o.g = false := by simpa using hg
          have hv := hok.2.2 hg0
          rw [if_neg hg, List.append_assoc] at hrest
          subst hrest
          rw [hg0] at cB
          go_wp2_with fail
          refine Calls.mono cL ?_
          rintro e w3 ⟨rfl, rfl⟩
          go_wp2_with fail
          refine Calls.mono cB ?_
          rintro e w3 ⟨rfl, hs3, ho3⟩
          have ct := jtext X o.k _ 32 w3 (by have := hok.2.1; omega) (by have := hok.2.1; omega) hs3
          have H3 := Lib.hid ho3
          clear cB cL hs3 ho3 hpos
          go_wp2_with fail
          refine Calls.mono ct ?_
          rintro e w4 ⟨rfl, hs4, ho4⟩
          have ct2 := jtext X o.v _ 8192 w4 (by omega) (by omega) hs4
          have H4 := Lib.hid (H3.out.trans ho4)
          clear ct hs4 ho4
          go_wp2_with fail
          refine Calls.mono ct2 ?_
          rintro e w5 ⟨rfl, hs5, ho5⟩
          have ce := err_some X 0 w5 hs5.c1
          have hjb := HLD.out.only (H4.out.trans ho5) HX.out
          have HJ5 := Lib.hid (And.intro hjb hs5)
          have cc := jset w5 N p _ pv' lv now us told _ hjb.1 HSZ.out.1 (by have := HSZ.out; omega) (by have := HSZ.out; omega) HSZ.out.2.2.2 o.k o.v (by have := hok.2.1; omega) (by omega)
          clear ct2 hs5 ho5 hjb
          go_wp2_with fail
          refine Calls.mono ce ?_
          rintro e w6 ⟨rfl, rfl⟩
          go_wp2_with fail
          refine Calls.mono (cM _) ?_
          rintro e w6 ⟨rfl, rfl⟩
          go_wp2_with fail
          refine Calls.mono cc ?_
          rintro e w6 ⟨rfl, pv2, hj6, ho6⟩
          have hs6 := src_okept HJ5.out.2 ho6 HJ5.out.1.1.2.1 HJ5.out.1.1.2.2
          have hrun : setK (runJ [] dn) o.k o.v = runJ [] (dn ++ [o]) := by rw [runJ_snoc]; unfold JO.do; rw [if_neg hg]
          have HL6 := Lib.hid (show LdR w w6 N p X (.pointer (some ⟨q, 0, none⟩)) lv pv2 now us told (dn ++ [o]) td from ⟨by rw [← hrun]; exact hj6, hs6, HJ5.out.1.2.trans ho6.below⟩)
          have hm6 := hs6.c0
          have HM6 := Lib.hid hm6
          clear cc ce hj6 ho6 hs6 hrun hm6
          go_wp2_with fail
          go_roundw
          case rel => exact ⟨dn ++ [o], td, pv2, HSP2.out, HL6.out⟩
          case measure =>
            have h1 := HM6.out
            have h2 := HMS.out
            rw [h1, h2]
            show (td.flatMap JO.b).toArray.size < (c :: (textL o.k ++ (textL o.v ++ td.flatMap JO.b))).toArray.size
            simp
            omega
end Go.Proofs.YtgnnijpfkgmomaaGreatDoor
/-
  journal: Open.
-/

namespace Go.Proofs.YtgnnijpfkgmomaaGreatDoor
open Go.RowKit
set_option linter.unusedVariables false
set_option linter.unusedSimpArgs false

/-- how it stands has been laid into the object -/
theorem jm_stand {w : World} {N p : Nat} {dv pv lv : Value} {sz now used told : Int} {l : List JP} (h : JM w N p dv pv sz lv now used told l) (x y z : Int) :
    JM (((w.setCell ⟨p, 4, none⟩ (.int .i64 x)).setCell ⟨p, 5, none⟩ (.int .i64 y)).setCell ⟨p, 6, none⟩ (.int .u64 z)) N p dv pv sz lv x y z l ∧
    OKept w (((w.setCell ⟨p, 4, none⟩ (.int .i64 x)).setCell ⟨p, 5, none⟩ (.int .i64 y)).setCell ⟨p, 6, none⟩ (.int .u64 z)) N p pv pv := by
  have hne := jm_ne h
  obtain ⟨hN, hp, hr0⟩ := h
  have e : ((w.setCell ⟨p, 4, none⟩ (.int .i64 x)).setCell ⟨p, 5, none⟩ (.int .i64 y)).setCell ⟨p, 6, none⟩ (.int .u64 z) = ((w.setCell ⟨p, 4, none⟩ (.int .i64 x)).setCell ⟨p, 5, none⟩ (.int .i64 y)).setCell ⟨p, 6, none⟩ (.int .u64 z) := rfl
  have k1 := heap_set_self (heap_set_self (heap_set_self hp 4 (.int .i64 x)) 5 (.int .i64 y)) 6 (.int .u64 z)
  have ho : ∀ k, k ≠ p → (((w.setCell ⟨p, 4, none⟩ (.int .i64 x)).setCell ⟨p, 5, none⟩ (.int .i64 y)).setCell ⟨p, 6, none⟩ (.int .u64 z)).heap[k]? = w.heap[k]? := fun k hk => by
    rw [heap_setCell_other _ _ _ _ hk, heap_setCell_other _ _ _ _ hk, heap_setCell_other _ _ _ _ hk]
  refine ⟨⟨hN, ?_, ?_⟩, ?_⟩
  · rw [k1]
    rfl
  · refine hr0.kept (row := some p) ⟨rfl, rfl, rfl, by simp, fun k hk hr => ho k (fun e => hr (by rw [e]))⟩ (.inr hne)
  · have hb2 := (((Below.refl N w).setCell (p := ⟨p, 4, none⟩) hN (.int .i64 x)).setCell (p := ⟨p, 5, none⟩) hN (.int .i64 y)).setCell (p := ⟨p, 6, none⟩) hN (.int .u64 z)
    exact ⟨hb2, by simp, fun k hk hkp hu => ho k hkp, .inl rfl⟩
theorem word_le (now used : Nat) (h1 : now ≤ 1) (h2 : used ≤ 1000000) : (wordJ now used).size ≤ 18 ∧ (wordJ now used).size = (putN now ++ putN used).length := by
  have e : (wordJ now used).size = (putN now ++ putN used).length := by show (putN now ++ putN used).toArray.size = _; simp
  have g1 := putN_length now (by omega)
  have g2 := putN_length used (by omega)
  rw [e, List.length_append]
  omega
theorem pad_list (now used : Nat) (h1 : now ≤ 1) (h2 : used ≤ 1000000) : ∃ m, m ≤ 48 ∧ padS (wordJ now used) = ⟨(putN now ++ (putN used ++ List.replicate m 0)).toArray⟩ := by
  obtain ⟨g1, g2⟩ := word_le now used h1 h2
  refine ⟨48 - (wordJ now used).size, by omega, ?_⟩
  apply str_ext
  unfold padS
  rw [app_l]
  show (putN now ++ putN used).toArray.toList ++ (List.replicate (48 - (wordJ now used).size) (0 : UInt8)).toArray.toList = _
  simp
/-- a disk that holds a journal's records, and nothing that is not sure -/
structure DR (w : World) (N q : Nat) (sv : Value) (S : List ByteArray) (a b last : ByteArray) (s : DS) : Prop where
  pd : PDsk w N q sv S a b s.told last s.top
  dx : DX S s last
theorem DR.below {w w' : World} {N q : Nat} {sv : Value} {S : List ByteArray} {a b last : ByteArray} {s : DS} (h : DR w N q sv S a b last s) (hb : Below w.heap.size w w') : DR w' N q sv S a b last s := ⟨h.pd.below hb, h.dx⟩
theorem src_tk {w w' : World} {X : Nat} {r : RS} {ts : List TypeId} (h : Src w X r) (hk : TK w w' ts) (ht : 89 ∉ ts) : Src w' X r := hk X _ _ _ h ht
theorem jint (b n : Nat) (rest : List UInt8) (L : Nat) (w : World) (hn : n ≤ L) (hL : L ≤ 1000000) (h : Src w b ⟨putN n ++ rest, 0⟩) :
    Calls Tryz.prog 27 #[.pointer (some ⟨b, 0, none⟩), .int .i64 L] w fun e w' => e = .returned (.int .i64 n) ∧ Src w' b ⟨rest, 0⟩ ∧ Only b w w' := by
  have c := int_src b ⟨putN n ++ rest, 0⟩ L w (by omega) h
  obtain ⟨t1, t2⟩ := num_put n (by omega) rest L hn
  rw [Int.toNat_natCast, t1, t2] at c
  exact c
theorem nowJ_nil (s : DS) : nowJ s [] = runJ [] s.rs := by unfold nowJ; rw [List.append_nil]
/-- a journal that has just been opened -/
theorem jx_open {w w' : World} {N p q : Nat} {pv sv : Value} {S : List ByteArray} {a b last : ByteArray} {s : DS} (h : DR w N q sv S a b last s) (hb : Below w.heap.size w w')
    (hj : JM w' w.heap.size p (.pointer (some ⟨q, 0, none⟩)) pv (sizeJ (runJ [] s.rs)) (.slice none 0 0) s.now (lenJ s.rs) s.told (runJ [] s.rs)) :
    JX w' N p q pv (.slice none 0 0) sv S a b last s [] ∧ (∀ k, pv.ownBlock = some k → w.heap.size ≤ k) := by
  refine ⟨⟨h.pd.below hb, h.dx, ?_, ⟨rfl, .inl ⟨rfl, rfl⟩⟩, (fun o ho => by cases ho), ?_⟩, fun k hk => (hj.2.2.lt k hk).1⟩
  · rw [nowJ_nil]
    exact jm_mono hj h.pd.dsk.le
  · rw [nowJ_nil]
    exact h.dx.fit
set_option maxHeartbeats 4000000 in
set_option maxRecDepth 100000 in
theorem jopen {w : World} {N q : Nat} {sv : Value} {S : List ByteArray} {a b last : ByteArray} {s : DS} (h : DR w N q sv S a b last s) :
    Calls Tryz.prog 7 #[.pointer (some ⟨q, 0, none⟩)] w fun e w' => ∃ p pv, e = .returned (.tuple #[.pointer (some ⟨p, 0, none⟩), .int .i64 0]) ∧ JX w' N p q pv (.slice none 0 0) sv S a b last s [] ∧ (∀ k, pv.ownBlock = some k → w.heap.size ≤ k) ∧ Below w.heap.size w w' := by
  have cs := dsectors w N q sv _ S [] h.pd.dsk
  rw [h.dx.len] at cs
  have h6 : ¬ ((s.n : Nat) : Int) < 6 := by have := h.dx.least; omega
  have hx := heap_alloc_self w (.cells (jC (.pointer (some ⟨q, 0, none⟩)) (.slice none 0 0) 0 (.slice none 0 0) 0 0 0) 64)
  have hb0 : Below w.heap.size w (w.alloc (.cells (jC (.pointer (some ⟨q, 0, none⟩)) (.slice none 0 0) 0 (.slice none 0 0) 0 0 0) 64)) := (Below.refl _ _).alloc (Nat.le_refl _) _
  have cP := pread (h.pd.below hb0)
  unfold jC at hx hb0 cP
  have HH := Lib.hid h
  have hjm : JM (w.alloc (.cells #[.pointer (some ⟨q, 0, none⟩), .slice none 0 0, .int .i64 0, .slice none 0 0, .int .i64 0, .int .i64 0, .int .u64 0] 64)) w.heap.size w.heap.size (.pointer (some ⟨q, 0, none⟩)) (.slice none 0 0) 0 (.slice none 0 0) 0 0 0 [] :=
    ⟨Nat.le_refl _, hx, rfl, .inl ⟨rfl, rfl⟩⟩
  have HJ := Lib.hid hjm
  have HB := Lib.hid hb0
  obtain ⟨P, hP⟩ : ∃ P, w.heap.size = P := ⟨_, rfl⟩
  have HP := Lib.hid hP
  rw [hP] at HJ HB ⊢
  have ps : ∀ {w' : World}, Below P w w' → P ≤ w'.heap.size := fun h => by rw [← HP.out]; exact h.size
  clear h hx hb0 hjm
  by_cases h0 : 0 < s.told
  · have hroom := HH.out.dx.room
    have hmost := HH.out.dx.most
    have hnow := HH.out.dx.now
    have hmm : manyN s.n = (s.n - 2) / 2 := rfl
    obtain ⟨m, hm48, hpad⟩ := pad_list s.now (lenJ s.rs) hnow (by omega)
    have hlast := (HH.out.dx.word h0).trans hpad
    have cF := fun w => from_any last w
    have cA := fun (w' : World) (hb : Below w.heap.size w w') (hc : w'.cell? ⟨P, 0, none⟩ = some (.pointer (some ⟨q, 0, none⟩))) => (show Calls Tryz.prog 29 #[.pointer (some ⟨P, 0, none⟩), .int .i64 0] w' fun e w'' => e = .returned (areaV ((2 + 0 * manyN s.n : Nat) : Int) ((manyN s.n : Nat) : Int)) ∧ Below w'.heap.size w' w'' from jarea w' N P q 0 s.n sv _ S [] hc (HH.out.pd.dsk.below hb) HH.out.dx.len (by have := HH.out.dx.least; omega) (by omega))
    have cY := fun w => abytes ((2 + 0 * manyN s.n : Nat) : Int) ((manyN s.n : Nat) : Int) w
    have e : bytesA ((2 + 0 * manyN s.n : Nat) : Int) ((manyN s.n : Nat) : Int) = ((64 * manyN s.n : Nat) : Int) := by
      unfold bytesA
      rw [if_pos ((mayA_iff _ _).2 (by have := HH.out.dx.least; omega))]
      omega
    rw [e] at cY
    unfold areaV at cA cY
    generalize ((2 + 0 * manyN s.n : Nat) : Int) = F0 at cA cY
    generalize ((manyN s.n : Nat) : Int) = M0 at cA cY
    have HRM := Lib.hid (And.intro hroom (And.intro hmost (And.intro hnow (And.intro hmm hm48))))
    have HLA := Lib.hid hlast
    have CA := Lib.hid cA
    obtain ⟨R, hR⟩ : ∃ R, 64 * manyN s.n = R := ⟨_, rfl⟩
    rw [hR] at hroom
    simp only [hR] at cY
    have hRb : R ≤ 1000000 := by omega
    have h0d : decide (0 < s.told) = true := by simp [h0]
    rw [h0d] at cP
    clear hmost hmm hpad hlast e hm48 hR h0d cA
    go_enter Tryz.func7, Tryz.ntmps7
    go_wp2_with fail
    refine Calls.mono cs ?_
    rintro e w1 ⟨rfl, rfl⟩
    go_upto_region 4 with fail
    try simp only [hP]
    generalize w.alloc (.cells #[.pointer (some ⟨q, 0, none⟩), .slice none 0 0, .int .i64 0, .slice none 0 0, .int .i64 0, .int .i64 0, .int .u64 0] 64) = w2 at *
    go_wp2_with fail
    refine Calls.mono cP ?_
    rintro e w3 ⟨rfl, hb3⟩
    have hj3 := HJ.out.below hb3
    have HB3 := Lib.hid (HB.out.trans (hb3.mono (ps HB.out)))
    have HJ3 := Lib.hid hj3
    have c4 := cF w3
    obtain ⟨X, hX⟩ : ∃ X, w3.heap.size = X := ⟨_, rfl⟩
    have hb4 : Below w3.heap.size w3 (w3.alloc (.cells #[.string last, .int .i64 0] 89)) := (Below.refl _ _).alloc (Nat.le_refl _) _
    have hs4 : Src (w3.alloc (.cells #[.string last, .int .i64 0] 89)) X ⟨putN s.now ++ (putN (lenJ s.rs) ++ List.replicate m 0), 0⟩ := by
      unfold Src
      rw [← hX, HLA.out]
      exact heap_alloc_self w3 _
    have hj4 := hj3.below hb4
    have HB4 := Lib.hid (HB3.out.trans (hb4.mono (ps HB3.out)))
    have hPX : P ≤ X := by rw [← hX]; exact (ps HB3.out)
    rw [hX] at c4
    clear hb3 cP cs hb4 hj3 cF hX
    go_wp2_with fail
    refine Calls.mono c4 ?_
    rintro e w4 ⟨rfl, rfl⟩
    generalize w3.alloc (.cells #[.string last, .int .i64 0] 89) = w4 at *
    have ci := jint X s.now (putN (lenJ s.rs) ++ List.replicate m 0) 1 w4 (by omega) (by omega) hs4
    have HJ4 := Lib.hid (And.intro hj4 hs4)
    clear hj4 hs4 c4
    go_wp2_with fail
    refine Calls.mono ci ?_
    rintro e w5 ⟨rfl, hs5, ho5⟩
    have hj5 := HJ4.out.1.tk (ho5.tk HJ4.out.2) (by decide) (by decide)
    have HB5 := Lib.hid (HB4.out.trans (ho5.below hPX (ps HB4.out)))
    have HJ5 := Lib.hid (And.intro hj5 hs5)
    have ca := CA.out w5 (by rw [HP.out]; exact HB5.out) (jm_cells hj5).1
    clear ci hs5 ho5 hj5
    go_wp2_with fail
    refine Calls.mono ca ?_
    rintro e w6 ⟨rfl, hb6⟩
    have HB6 := Lib.hid (HB5.out.trans (hb6.mono (ps HB5.out)))
    have HJ6 := Lib.hid (And.intro (HJ5.out.1.below hb6) (HJ5.out.2.below hb6))
    clear ca hb6
    go_wp2_with fail
    refine Calls.mono (cY _) ?_
    rintro e w7 ⟨rfl, hb7⟩
    have HB7 := Lib.hid (HB6.out.trans (hb7.mono (ps HB6.out)))
    have HJ7 := Lib.hid (And.intro (HJ6.out.1.below hb7) (HJ6.out.2.below hb7))
    have ci := jint X (lenJ s.rs) (List.replicate m 0) R w7 (by omega) (by omega) HJ7.out.2
    clear hb7 cY
    go_wp2_with fail
    refine Calls.mono ci ?_
    rintro e w8 ⟨rfl, hs8, ho8⟩
    have hj8 := HJ7.out.1.tk (ho8.tk HJ7.out.2) (by decide) (by decide)
    have HB8 := Lib.hid (HB7.out.trans (ho8.below hPX (ps HB7.out)))
    have HJ8 := Lib.hid (And.intro hj8 hs8)
    have d4 : w8.cell? ⟨P, 4, none⟩ = some (.int .i64 0) := by simp [World.cell?, hj8.2.1, jC]
    have d5 : w8.cell? ⟨P, 5, none⟩ = some (.int .i64 0) := by simp [World.cell?, hj8.2.1, jC]
    have d6 : w8.cell? ⟨P, 6, none⟩ = some (.int .u64 0) := by simp [World.cell?, hj8.2.1, jC]
    have f4 : w8.frozen? ⟨P, 4, none⟩ = false := by simp [World.frozen?, hj8.2.1]
    have f5 : w8.frozen? ⟨P, 5, none⟩ = false := by simp [World.frozen?, hj8.2.1]
    have f6 : w8.frozen? ⟨P, 6, none⟩ = false := by simp [World.frozen?, hj8.2.1]
    obtain ⟨hj9, hk9⟩ := jm_stand hj8 s.now (lenJ s.rs) s.told
    have hs9 := src_okept hs8 hk9 hj8.2.1 hj8.2.2
    have HB9 := Lib.hid (HB8.out.trans hk9.below)
    have HJ9 := Lib.hid (And.intro hj9 hs9)
    clear ci hs8 ho8 hj8 hk9 hs9 hj9
    go_upto_region 9 with fail
    generalize ((w8.setCell ⟨P, 4, none⟩ (.int .i64 (s.now : Int))).setCell ⟨P, 5, none⟩ (.int .i64 (lenJ s.rs : Int))).setCell ⟨P, 6, none⟩ (.int .u64 (s.told : Int)) = w9 at *
    clear d4 d5 d6 f4 f5 f6
    have cL := left_some X (List.replicate m 0) w9 HJ9.out.2.c0
    rw [List.length_replicate] at cL
    have ct := take_src X ⟨List.replicate m 0, 0⟩ m w9 HJ9.out.2
    have t1 : (⟨List.replicate m 0, 0⟩ : RS).takeB (m : Int) = List.replicate m 0 := by rw [takeB_ok _ _ (by simp)]; simp
    have t2 : (⟨List.replicate m 0, 0⟩ : RS).takeS (m : Int) = ⟨[], 0⟩ := by rw [takeS_ok _ _ (by simp)]; simp
    rw [t1, t2] at ct
    have hm48 := HRM.out.2.2.2.2
    have cT := fun w => jtrim m w (by omega)
    unfold zeroL at cT
    obtain ⟨Z, hZ⟩ : ∃ Z : ByteArray, (⟨(List.replicate m 0).toArray⟩ : ByteArray) = Z := ⟨_, rfl⟩
    rw [hZ] at ct
    simp only [hZ] at cT
    clear hZ t1 t2
    go_wp2_with fail
    refine Calls.mono cL ?_
    rintro e w10 ⟨rfl, rfl⟩
    go_wp2_with fail
    refine Calls.mono ct ?_
    rintro e w10 ⟨rfl, hs10, ho10⟩
    have ce := err_some X 0 w10 hs10.c1
    have hj10 := HJ9.out.1.tk (ho10.tk HJ9.out.2) (by decide) (by decide)
    have HB10 := Lib.hid (HB9.out.trans (ho10.below hPX (ps HB9.out)))
    have HJ10 := Lib.hid hj10
    clear ct cL hs10 ho10 hj10
    go_wp2_with fail
    refine Calls.mono ce ?_
    rintro e w11 ⟨rfl, rfl⟩
    go_wp2_with fail
    refine Calls.mono (cT _) ?_
    rintro e w11 ⟨rfl, hb11⟩
    have HB11 := Lib.hid (HB10.out.trans (hb11.mono (ps HB10.out)))
    have hj11 := HJ10.out.below hb11
    have cl := jload (s := s) (told := s.told) rfl (HH.out.pd.dsk.below (by rw [HP.out]; exact HB11.out)) HH.out.dx hj11
    clear ce cT hb11 hj11
    go_wp2_with fail
    refine Calls.mono cl ?_
    rintro e w12 ⟨rfl, pv', hj12, hb12⟩
    have HJ12 := Lib.hid hj12
    have HB12 := Lib.hid (HB11.out.trans hb12)
    clear cl hj12 hb12
    go_wp2_with fail
    go_returns
    have hr := jx_open (w' := w12) (p := P) (pv := pv') HH.out (by rw [HP.out]; exact HB12.out) (by rw [HP.out]; exact HJ12.out)
    rw [HP.out] at hr
    exact ⟨P, pv', rfl, hr.1, hr.2, HB12.out⟩
  · have h0' : s.told = 0 := by omega
    have hz := HH.out.dx.zero h0'
    simp only [h0, decide_false] at cP
    go_enter Tryz.func7, Tryz.ntmps7
    go_wp2_with fail
    refine Calls.mono cs ?_
    rintro e w1 ⟨rfl, rfl⟩
    go_upto_region 4 with fail
    try simp only [hP]
    generalize w.alloc (.cells #[.pointer (some ⟨q, 0, none⟩), .slice none 0 0, .int .i64 0, .slice none 0 0, .int .i64 0, .int .i64 0, .int .u64 0] 64) = w2 at *
    go_wp2_with fail
    refine Calls.mono cP ?_
    rintro e w3 ⟨rfl, hb3⟩
    have HB3 := Lib.hid hb3
    clear hb3 cP cs
    go_wp2_with fail
    go_returns
    have hr := jx_open (w' := w3) (p := P) (pv := .slice none 0 0) HH.out (by rw [HP.out]; exact HB.out.trans (HB3.out.mono (ps HB.out))) (by
      rw [HP.out, hz.1, hz.2, h0']
      exact HJ.out.below HB3.out)
    rw [HP.out] at hr
    exact ⟨P, _, rfl, hr.1, hr.2, HB.out.trans (HB3.out.mono (ps HB.out))⟩
end Go.Proofs.YtgnnijpfkgmomaaGreatDoor
/-
  A journal's disk: what its writings leave of what was sure, whatever becomes of them, and what they have laid (pure).
-/


namespace Go.Proofs.YtgnnijpfkgmomaaGreatDoor
open Go.RowKit
set_option linter.unusedVariables false
set_option linter.unusedSimpArgs false

/-- what a fate leaves of bytes that a writing has as they are -/
theorem fate_sameP (f : Int) (S : List ByteArray) (x : Nat × ByteArray) (P : Nat → Prop) (hS : ∀ s ∈ S, s.size = 64) (hx : x.1 < S.length ∧ x.2.size = 64) (h : ∀ q, q < 64 → P (64 * x.1 + q) → atB x.2 q = flatD S [] (64 * x.1 + q)) (j : Nat) (hj : P j) : flatD (fateS f S x) [] j = flatD S [] j := by
  have hw : (S.getD x.1 ⟨#[]⟩).size = 64 := by
    rw [List.getD_eq_getElem?_getD, List.getElem?_eq_getElem hx.1]
    exact hS _ (List.getElem_mem _)
  have hset : ∀ v : ByteArray, (∀ q, q < 64 → P (64 * x.1 + q) → atB v q = flatD S [] (64 * x.1 + q)) → flatD (S.set x.1 v) [] j = flatD S [] j := by
    intro v hv
    by_cases hk : x.1 = j / 64
    · have hm : j % 64 < 64 := Nat.mod_lt _ (by omega)
      have := hv (j % 64) hm (by rw [hk, show 64 * (j / 64) + j % 64 = j by omega]; exact hj)
      rw [show 64 * x.1 + j % 64 = j by omega] at this
      rw [← this, flat_nil, List.getD_eq_getElem?_getD, ← hk, List.getElem?_set_self hx.1]
      rfl
    · rw [flat_nil, flat_nil, List.getD_eq_getElem?_getD, List.getElem?_set_ne hk, ← List.getD_eq_getElem?_getD]
  have hold : ∀ q, q < 64 → atB (S.getD x.1 ⟨#[]⟩) q = flatD S [] (64 * x.1 + q) := by
    intro q hq
    rw [flat_nil, show (64 * x.1 + q) / 64 = x.1 by omega, show (64 * x.1 + q) % 64 = q by omega]
  have hmix : ∀ a b : ByteArray, a.size = 64 → b.size = 64 → (∀ q, q < 64 → P (64 * x.1 + q) → atB a q = flatD S [] (64 * x.1 + q)) → (∀ q, q < 64 → P (64 * x.1 + q) → atB b q = flatD S [] (64 * x.1 + q)) → ∀ q, q < 64 → P (64 * x.1 + q) → atB (frontS a ++ backS b) q = flatD S [] (64 * x.1 + q) := by
    intro a b ha hb ga gb q hq hqt
    rw [atB_app, front_size ha]
    by_cases h32 : q < 32
    · rw [if_pos h32]
      unfold frontS
      rw [atB_ext _ _ _ _ (by omega), Nat.zero_add]
      exact ga q hq hqt
    · rw [if_neg h32]
      unfold backS
      rw [atB_ext _ _ _ _ (by omega), show 32 + (q - 32) = q by omega]
      exact gb q hq hqt
  unfold fateS
  repeat' split
  · exact hset _ h
  · exact hset _ (hmix _ _ hx.2 hw h (fun q hq _ => hold q hq))
  · exact hset _ (hmix _ _ hw hx.2 (fun q hq _ => hold q hq) h)
  · rfl
theorem end_sameP (fate : Nat → Int) (P : Nat → Prop) : ∀ (L : List (Nat × ByteArray)) (k : Nat) (S : List ByteArray), (∀ s ∈ S, s.size = 64) → (∀ x ∈ L, x.1 < S.length ∧ x.2.size = 64) → (∀ x ∈ L, ∀ q, q < 64 → P (64 * x.1 + q) → atB x.2 q = flatD S [] (64 * x.1 + q)) → ∀ j, P j → flatD (endS fate k S L) [] j = flatD S [] j := by
  intro L
  induction L with
  | nil => intro k S _ _ _ j _; rfl
  | cons x L ih =>
    intro k S hS hL h j hj
    have hx := hL x (by simp)
    have hsame := fate_sameP (fate k) S x P hS hx (h x (by simp))
    show flatD (endS fate (k + 1) (fateS (fate k) S x) L) [] j = _
    rw [ih (k + 1) _ (fateS_sizes _ _ _ hS hx) (fun y hy => by rw [fateS_length]; exact hL y (by simp [hy])) (fun y hy q hq hqt => by rw [hsame _ hqt]; exact h y (by simp [hy]) q hq hqt) j hj]
    exact hsame j hj
theorem end_length (fate : Nat → Int) (k : Nat) (S : List ByteArray) (L : List (Nat × ByteArray)) : (endS fate k S L).length = S.length := endS_length fate k S L
theorem end_sizes (fate : Nat → Int) : ∀ (L : List (Nat × ByteArray)) (k : Nat) (S : List ByteArray), (∀ s ∈ S, s.size = 64) → (∀ x ∈ L, x.1 < S.length ∧ x.2.size = 64) → ∀ s ∈ endS fate k S L, s.size = 64
  | [], _, S, hS, _ => hS
  | x :: L, k, S, hS, hL => end_sizes fate L (k + 1) _ (fateS_sizes _ _ _ hS (hL x (by simp))) (fun y hy => by rw [fateS_length]; exact hL y (by simp [hy]))
/-- a sector whose bytes are as they were is as it was -/
theorem sector_same {S S' : List ByteArray} (hS : ∀ s ∈ S, s.size = 64) (hS' : ∀ s ∈ S', s.size = 64) (hl : S'.length = S.length) (i : Nat) (hi : i < S.length) (h : ∀ q, q < 64 → flatD S' [] (64 * i + q) = flatD S [] (64 * i + q)) : S'[i]? = S[i]? := by
  have hi' : i < S'.length := by omega
  rw [List.getElem?_eq_getElem hi, List.getElem?_eq_getElem hi']
  congr 1
  have z1 : (S[i]).size = 64 := hS _ (List.getElem_mem _)
  have z2 : (S'[i]).size = 64 := hS' _ (List.getElem_mem _)
  apply str_ext
  apply List.ext_getElem?
  intro q
  have l1 : (S[i]).data.toList.length = 64 := z1
  have l2 : (S'[i]).data.toList.length = 64 := z2
  by_cases hq : q < 64
  · have e := h q hq
    rw [flat_nil, flat_nil, show (64 * i + q) / 64 = i by omega, show (64 * i + q) % 64 = q by omega, List.getD_eq_getElem?_getD, List.getD_eq_getElem?_getD, List.getElem?_eq_getElem hi, List.getElem?_eq_getElem hi'] at e
    simp only [Option.getD_some] at e
    unfold atB at e
    rw [List.getD_eq_getElem?_getD, List.getD_eq_getElem?_getD, List.getElem?_eq_getElem (by omega), List.getElem?_eq_getElem (by omega)] at e
    rw [List.getElem?_eq_getElem (by omega), List.getElem?_eq_getElem (by omega)]
    simpa using e
  · rw [List.getElem?_eq_none (by omega), List.getElem?_eq_none (by omega)]
/-- an area's bytes are records -/
structure AX (S : List ByteArray) (n now : Nat) (rs : List JO) : Prop where
  le1 : now ≤ 1
  bytes : ∀ j, j < lenJ rs → flatD S [] (64 * (2 + now * manyN n) + j) = (rs.flatMap JO.b).getD j 0
  room : lenJ rs ≤ 64 * manyN n
  ok : ∀ o ∈ rs, o.ok
  fit : sizeJ (runJ [] rs) ≤ 64 * manyN n
theorem AX.same {S S' : List ByteArray} {n now : Nat} {rs : List JO} (h : AX S n now rs) (hs : ∀ j, 128 ≤ j → flatD S' [] j = flatD S [] j) : AX S' n now rs :=
  ⟨h.le1, fun j hj => (hs _ (by omega)).trans (h.bytes j hj), h.room, h.ok, h.fit⟩
theorem DX.ax {S : List ByteArray} {s : DS} {last : ByteArray} (h : DX S s last) : AX S s.n s.now s.rs := ⟨h.now, h.bytes, h.room, h.ok, h.fit⟩
/-- what lay has laid: the old records stay, whatever becomes of it; the new ones stand in their area -/
structure LYD (S : List ByteArray) (L : List (Nat × ByteArray)) (s : DS) (os : List JO) (now' : Nat) (rs' : List JO) : Prop where
  now : now' ≤ 1
  run : runJ [] rs' = nowJ s os
  ok : ∀ o ∈ rs', o.ok
  room : lenJ rs' ≤ 64 * manyN s.n
  bytes : ∀ j, j < lenJ rs' → flatD S L (64 * (2 + now' * manyN s.n) + j) = (rs'.flatMap JO.b).getD j 0
  len : L.length ≤ 1000000
  old : ∃ P : Nat → Prop, (∀ j, j < 128 → P j) ∧ (∀ j, j < lenJ s.rs → P (64 * (2 + s.now * manyN s.n) + j)) ∧ ∀ x ∈ L, ∀ q, q < 64 → P (64 * x.1 + q) → atB x.2 q = flatD S [] (64 * x.1 + q)
theorem atB_rec (rs : List JO) (j : Nat) : atB (⟨(rs.flatMap JO.b).toArray⟩ : ByteArray) j = (rs.flatMap JO.b).getD j 0 := rfl
theorem lyd_app {S : List ByteArray} {L : List (Nat × ByteArray)} {s : DS} {last : ByteArray} {os : List JO} (hx : DX S s last) (hok : ∀ o ∈ os, o.ok) (hr : lenJ s.rs + lenJ os ≤ 64 * manyN s.n)
    (hl : Laid S [] L (64 * (2 + s.now * manyN s.n) + lenJ s.rs) (lenJ os) (lenJ os) ⟨(os.flatMap JO.b).toArray⟩) : LYD S L s os s.now (s.rs ++ os) := by
  have hn := hx.most
  have hmm : manyN s.n = (s.n - 2) / 2 := rfl
  refine ⟨hx.now, rfl, fun o ho => (List.mem_append.1 ho).elim (hx.ok o) (hok o), by rw [lenJ_app]; exact hr, fun j hj => ?_, ?_, ?_⟩
  · rw [lenJ_app] at hj
    rw [hl.flat, List.flatMap_append]
    by_cases h : j < lenJ s.rs
    · rw [if_neg (by omega)]
      rw [show flatD S [] (64 * (2 + s.now * manyN s.n) + j) = _ from hx.bytes j h, List.getD_eq_getElem?_getD, List.getD_eq_getElem?_getD, List.getElem?_append_left h]
    · rw [if_pos ⟨by omega, by omega⟩, atB_rec, List.getD_eq_getElem?_getD, List.getD_eq_getElem?_getD, List.getElem?_append_right (Nat.le_of_not_lt h)]
      congr 2
      show _ = j - lenJ s.rs
      omega
  · obtain ⟨M, hM, hMl, -⟩ := hl.more
    rw [hM, List.nil_append]
    omega
  · obtain ⟨M, hM, -, hMx⟩ := hl.more
    rw [List.nil_append] at hM
    subst hM
    exact ⟨fun j => ¬ (64 * (2 + s.now * manyN s.n) + lenJ s.rs ≤ j ∧ j < 64 * (2 + s.now * manyN s.n) + lenJ s.rs + lenJ os), fun j hj => by omega, fun j hj => by omega, fun x hx q hq hP => hMx x hx q hq hP⟩
theorem lyd_all {S : List ByteArray} {L : List (Nat × ByteArray)} {s : DS} {last : ByteArray} {os : List JO} (hx : DX S s last) (hok : ∀ o ∈ os, o.ok) (hfit : sizeJ (nowJ s os) ≤ 64 * manyN s.n)
    (hl : Laid S [] L (64 * (2 + (1 - s.now) * manyN s.n) + 0) (lenJ (allJ (nowJ s os))) (lenJ (allJ (nowJ s os))) ⟨((allJ (nowJ s os)).flatMap JO.b).toArray⟩) : LYD S L s os (1 - s.now) (allJ (nowJ s os)) := by
  have hn := hx.most
  have hmm : manyN s.n = (s.n - 2) / 2 := rfl
  have hfit' : lenJ (allJ (nowJ s os)) ≤ 64 * manyN s.n := hfit
  have hroom := hx.room
  have hnow := hx.now
  have hall : ∀ p ∈ nowJ s os, 1 ≤ p.k.size ∧ p.k.size ≤ 32 ∧ p.v.size ≤ 8192 := run_ok (fun o ho => (List.mem_append.1 ho).elim (hx.ok o) (hok o)) (fun p hp => by cases hp)
  refine ⟨by omega, ?_, fun o ho => ?_, hfit', fun j hj => ?_, ?_, ?_⟩
  · have := run_all (nowJ s os) [] (by rw [List.nil_append]; exact srt_run _ _ srt_nil)
    rw [List.nil_append] at this
    exact this
  · obtain ⟨p, hp, rfl⟩ := List.mem_map.1 ho
    exact ⟨(hall p hp).1, (hall p hp).2.1, fun _ => (hall p hp).2.2⟩
  · rw [hl.flat, if_pos ⟨by omega, by omega⟩, atB_rec]
    congr 1
    omega
  · obtain ⟨M, hM, hMl, -⟩ := hl.more
    rw [hM, List.nil_append]
    omega
  · obtain ⟨M, hM, -, hMx⟩ := hl.more
    rw [List.nil_append] at hM
    subst hM
    refine ⟨fun j => ¬ (64 * (2 + (1 - s.now) * manyN s.n) + 0 ≤ j ∧ j < 64 * (2 + (1 - s.now) * manyN s.n) + 0 + lenJ (allJ (nowJ s os))), fun j hj => by omega, fun j hj => ?_, fun x hx q hq hP => hMx x hx q hq hP⟩
    have : s.now = 0 ∨ s.now = 1 := by omega
    rcases this with e | e <;> rw [e] <;> simp only [Nat.sub_zero, Nat.sub_self, Nat.zero_mul, Nat.one_mul] <;> omega
/-- whatever becomes of what was laid, the super's sectors and the old records stay -/
theorem lyd_end {S : List ByteArray} {L : List (Nat × ByteArray)} {s : DS} {os : List JO} {now' : Nat} {rs' : List JO} {last : ByteArray} (h : LYD S L s os now' rs') (hx : DX S s last) (hS : ∀ s ∈ S, s.size = 64) (hL : ∀ x ∈ L, x.1 < S.length ∧ x.2.size = 64) (fate : Nat → Int) :
    (endS fate 0 S L)[0]? = S[0]? ∧ (endS fate 0 S L)[1]? = S[1]? ∧ DX (endS fate 0 S L) s last := by
  obtain ⟨P, p1, p2, p3⟩ := h.old
  have hsame := end_sameP fate P L 0 S hS hL p3
  have hlen := end_length fate 0 S L
  have hsz := end_sizes fate L 0 S hS hL
  have h6 := hx.least
  have hl := hx.len
  refine ⟨sector_same hS hsz hlen 0 (by omega) fun q hq => hsame _ (p1 _ (by omega)), sector_same hS hsz hlen 1 (by omega) fun q hq => hsame _ (p1 _ (by omega)), ⟨hlen.trans hl, hx.least, hx.most, hx.now, hx.zero, hx.word, fun j hj => (hsame _ (p2 j hj)).trans (hx.bytes j hj), hx.room, hx.ok, hx.fit⟩⟩
/-- when it has been made sure, the new records stand there -/
theorem lyd_sync {S : List ByteArray} {L : List (Nat × ByteArray)} {s : DS} {os : List JO} {now' : Nat} {rs' : List JO} {last : ByteArray} (h : LYD S L s os now' rs') (hx : DX S s last) (hfit : sizeJ (nowJ s os) ≤ 64 * manyN s.n) : AX (syncS S L) s.n now' rs' := by
  have hmm : manyN s.n = (s.n - 2) / 2 := rfl
  have h6 := hx.least
  have hl := hx.len
  have hroom := h.room
  have hnow := h.now
  refine ⟨h.now, fun j hj => ?_, h.room, h.ok, by rw [h.run]; exact hfit⟩
  have hb := h.bytes j hj
  have hlt : (64 * (2 + now' * manyN s.n) + j) / 64 < S.length := by
    have : now' = 0 ∨ now' = 1 := by omega
    rcases this with e | e <;> rw [e] <;> omega
  rw [← hb]
  unfold flatD
  rw [sync_cur S L _ hlt]
end Go.Proofs.YtgnnijpfkgmomaaGreatDoor
/-
  journal: small things that lay wants.
-/



namespace Go.Proofs.YtgnnijpfkgmomaaGreatDoor
open Go.RowKit
set_option linter.unusedVariables false
set_option linter.unusedSimpArgs false

theorem cell_tk {w w' : World} {k : Nat} {c : Array Value} {t : TypeId} {z : Nat × Nat} {ts : List TypeId} (h : TK w w' ts) (hk : w.heap[k]? = some (.cells c t z)) (ht : t ∉ ts) (o : Nat) : w'.cell? ⟨k, o, none⟩ = w.cell? ⟨k, o, none⟩ := by
  have := h k c t z hk ht
  simp [World.cell?, hk, this]
theorem conv_own {w : World} {N n : Nat} {v : Value} {l : List UInt8} (h : w.ownsRow N 5 1 v n (bCells l)) : (convert 60 9 v).run Tryz.prog w = .ok (.string ⟨l.toArray⟩) w := by
  have hl : l.length = n := by have := h.1; rw [bCells_length] at this; omega
  have hn := h
  rcases h.2 with ⟨rfl, h0⟩ | ⟨g, cap, cur, rfl, hN, hg, h1, h2, h3, h4⟩
  · obtain rfl : l = [] := List.eq_nil_of_length_eq_zero (by omega)
    rw [run_convert_bytes_string w 60 9 5 none 0 0 Tryz.underlying60 Tryz.underlying5 Tryz.underlying9]
    first | rfl | simp [Conv.bytesToString, loadCells] | (unfold Conv.bytesToString; rfl)
  · subst hl
    refine run_convert_bytes_back w 60 9 5 ⟨g, 0, none⟩ cap l Tryz.underlying60 Tryz.underlying5 Tryz.underlying9 fun j hj => ?_
    refine hn.cells (g := g) rfl j _ ?_
    simp [bCells, hj]
theorem keeps_set {N : Nat} {w w' : World} {X : Prop} {b o : Nat} {v : Value} (h1 : N ≤ w'.heap.size ∧ Below N w w' ∧ X) (hb : N ≤ b) : N ≤ (w'.setCell ⟨b, o, none⟩ v).heap.size ∧ Below N w (w'.setCell ⟨b, o, none⟩ v) ∧ ∀ c k, c < N → (w'.setCell ⟨b, o, none⟩ v).cell? ⟨c, k, none⟩ = w.cell? ⟨c, k, none⟩ :=
  keeps_next h1 ⟨by simpa using h1.1, (Below.refl _ _).setCell (p := ⟨b, o, none⟩) hb v⟩
theorem TK.mono {w w' : World} {ts ts' : List TypeId} (h : TK w w' ts) (hs : ∀ t ∈ ts, t ∈ ts') : TK w w' ts' := fun k c t z hk ht => h k c t z hk (fun h => ht (hs t h))
theorem TK.belowB {w a b : World} {K : Nat} {ts : List TypeId} (h : TK w a ts) (hK : w.heap.size ≤ K) (hb : Below K a b) : TK w b ts := fun k c t z hk ht =>
  (hb.block k (Nat.lt_of_lt_of_le (lt_heap hk) hK)).trans (h k c t z hk ht)
theorem tk_set {w : World} {X o : Nat} {v : Value} {c : Array Value} {t : TypeId} (hX : w.heap[X]? = some (.cells c t)) : TK w (w.setCell ⟨X, o, none⟩ v) [t] := fun k cs ty z hk ht => by
  refine (heap_setCell_other _ _ _ _ (fun e => ?_)).trans hk
  subst e
  rw [hX] at hk
  injection hk with hk
  injection hk with _ h2
  exact ht (by rw [← h2]; simp)
theorem bt_tk {B b : Nat} {l : List UInt8} {w w' : World} {ts : List TypeId} (h : BT B b l w) (hk : TK w w' ts) (h1 : 108 ∉ ts) (h2 : 5 ∉ ts) : BT B b l w' := by
  refine h.imp ?_ ?_
  · rintro ⟨hB, v, ho, hown, hne⟩
    exact ⟨hB, v, hk b _ _ _ ho h1, owns_tk hown hk h2, hne⟩
  · rintro ⟨hB, v, ho, hown, hne⟩
    exact ⟨hB, v, hk b _ _ _ ho h1, owns_tk hown hk h2, hne⟩
theorem blenJ (B b : Nat) (l : List UInt8) (w : World) (h : BT B b l w) : Calls Tryz.prog 69 #[.pointer (some ⟨b, 0, none⟩)] w fun e w' => e = .returned (.int .i64 l.length) ∧ w = w' := by
  refine (Tryz.Builder_Len B b (bCells l) w h).mono ?_
  rintro e w' ⟨rfl, hw⟩
  exact ⟨by rw [bCells_length], hw.symm⟩
theorem allJ_snoc (l : List JP) (i : Nat) (x : JP) (h : l[i]? = some x) : (allJ (l.take (i + 1))).flatMap JO.b = (allJ (l.take i)).flatMap JO.b ++ JO.b ⟨x.k, x.v, false⟩ := by
  obtain ⟨h1, h2⟩ := List.getElem?_eq_some_iff.1 h
  rw [List.take_succ_eq_append_getElem h1, h2]
  unfold allJ
  rw [List.map_append, List.flatMap_append]
  simp
theorem all_le (l : List JP) (i : Nat) : ((allJ (l.take i)).flatMap JO.b).length ≤ sizeJ l := by
  have : sizeJ (l.take i ++ l.drop i) = sizeJ (l.take i) + sizeJ (l.drop i) := sizeJ_app _ _
  rw [List.take_append_drop] at this
  show sizeJ (l.take i) ≤ _
  omega
/-- the result's cell is laid -/
theorem lay_end {w w1 wz wb : World} {N Q q t : Nat} {sv lv2 : Value} {S : List ByteArray} {L2 : List (Nat × ByteArray)} (h1 : Below w.heap.size w w1) (hQ : w.heap.size = Q) (hN : N ≤ Q) (h2 : Below w1.heap.size w1 wz) (h3 : TK wz wb [58, 9, 117, 62]) (h4 : Below N wz wb)
    (hQb : wb.heap[Q]? = some (.cells #[.int .i64 0, .int .i64 0, .int .u64 0] 62)) (a b : Nat) (hd : Dsk wb N q sv lv2 S L2) :
    (Dsk (((wb.setCell ⟨Q, 0, none⟩ (.int .i64 a)).setCell ⟨Q, 1, none⟩ (.int .i64 b)).setCell ⟨Q, 2, none⟩ (.int .u64 t)) N q sv lv2 S L2 ∧
    TK w (((wb.setCell ⟨Q, 0, none⟩ (.int .i64 a)).setCell ⟨Q, 1, none⟩ (.int .i64 b)).setCell ⟨Q, 2, none⟩ (.int .u64 t)) [58, 9, 117, 62] ∧
    Below N w (((wb.setCell ⟨Q, 0, none⟩ (.int .i64 a)).setCell ⟨Q, 1, none⟩ (.int .i64 b)).setCell ⟨Q, 2, none⟩ (.int .u64 t))) ∧
    ((((wb.setCell ⟨Q, 0, none⟩ (.int .i64 a)).setCell ⟨Q, 1, none⟩ (.int .i64 b)).setCell ⟨Q, 2, none⟩ (.int .u64 t)).cell? ⟨Q, 0, none⟩ = some (.int .i64 a) ∧
    (((wb.setCell ⟨Q, 0, none⟩ (.int .i64 a)).setCell ⟨Q, 1, none⟩ (.int .i64 b)).setCell ⟨Q, 2, none⟩ (.int .u64 t)).cell? ⟨Q, 1, none⟩ = some (.int .i64 b) ∧
    (((wb.setCell ⟨Q, 0, none⟩ (.int .i64 a)).setCell ⟨Q, 1, none⟩ (.int .i64 b)).setCell ⟨Q, 2, none⟩ (.int .u64 t)).cell? ⟨Q, 2, none⟩ = some (.int .u64 t)) := by
  have k1 := heap_set_self (heap_set_self (heap_set_self hQb 0 (.int .i64 a)) 1 (.int .i64 b)) 2 (.int .u64 t)
  have ho : ∀ k, k ≠ Q → (((wb.setCell ⟨Q, 0, none⟩ (.int .i64 a)).setCell ⟨Q, 1, none⟩ (.int .i64 b)).setCell ⟨Q, 2, none⟩ (.int .u64 t)).heap[k]? = wb.heap[k]? := fun k hk => by
    rw [heap_setCell_other _ _ _ _ hk, heap_setCell_other _ _ _ _ hk, heap_setCell_other _ _ _ _ hk]
  have hbb := (((h1.mono (by omega)).trans (h2.mono (Nat.le_trans (by omega) h1.size))).trans h4)
  have hb5 := ((hbb.setCell (p := ⟨Q, 0, none⟩) hN (.int .i64 a)).setCell (p := ⟨Q, 1, none⟩) hN (.int .i64 b)).setCell (p := ⟨Q, 2, none⟩) hN (.int .u64 t)
  generalize ((wb.setCell ⟨Q, 0, none⟩ (.int .i64 a)).setCell ⟨Q, 1, none⟩ (.int .i64 b)).setCell ⟨Q, 2, none⟩ (.int .u64 t) = wf at *
  have htb : TK wb wf [62] := fun k c ty z hk ht => by
    refine (ho k fun e => ?_).trans hk
    subst e
    rw [hQb] at hk
    injection hk with hk
    injection hk with _ h2
    exact ht (by rw [← h2]; simp)
  refine ⟨⟨hd.tk htb (by decide) (by decide) (by decide), fun k c ty z hk ht => (ho k (fun e => by have := lt_heap hk; omega)).trans ((((TK.of_below h1 _).trans (TK.of_below h2 _)).trans h3) k c ty z hk ht), hb5⟩, ?_, ?_, ?_⟩ <;> simp [World.cell?, k1]
end Go.Proofs.YtgnnijpfkgmomaaGreatDoor
/-
  journal: lay.
-/

namespace Go.Proofs.YtgnnijpfkgmomaaGreatDoor
open Go.RowKit
set_option linter.unusedVariables false
set_option linter.unusedSimpArgs false

set_option maxHeartbeats 4000000 in
set_option maxRecDepth 100000 in
theorem jlay {w : World} {N p q : Nat} {pv lv sv : Value} {S : List ByteArray} {a b last : ByteArray} {s : DS} {os : List JO} (h : JX w N p q pv lv sv S a b last s os) (hl : lenJ os ≤ 900000) :
    Calls Tryz.prog 38 #[.pointer (some ⟨p, 0, none⟩)] w fun e w' => ∃ now' rs' L lvd, e = .returned (.agg #[.int .i64 (now' : Nat), .int .i64 (lenJ rs'), .int .u64 (nextP a b s.told)]) ∧ LYD S L s os now' rs' ∧ Dsk w' N q sv lvd S L ∧ TK w w' [58, 9, 117, 62] ∧ Below N w w' := by
  have hx1 := heap_alloc_self w (.cells #[.int .i64 0, .int .i64 0, .int .u64 0] 62)
  have hb1 : Below w.heap.size w (w.alloc (.cells #[.int .i64 0, .int .i64 0, .int .u64 0] 62)) := (Below.refl _ _).alloc (Nat.le_refl _) _
  obtain ⟨Q, hQ⟩ : ∃ Q, w.heap.size = Q := ⟨_, rfl⟩
  have HH := Lib.hid h
  have hNQ : N ≤ Q := by rw [← hQ]; exact h.pd.dsk.le
  rw [hQ] at hx1
  have HB1 := Lib.hid (And.intro hb1 (And.intro hQ hNQ))
  go_enter Tryz.func38, Tryz.ntmps38
  go_upto_region 1 with fail
  try simp only [hQ]
  generalize w.alloc (.cells #[.int .i64 0, .int .i64 0, .int .u64 0] 62) = w1 at *
  have hx1' := hx1
  obtain ⟨M, hM⟩ : ∃ M, w1.heap.size = M := ⟨_, rfl⟩
  have HM := Lib.hid hM
  have h1 := h.below hb1
  have hjm1 := h1.jm
  have hpM : p < M := by rw [← hM]; exact lt_heap hjm1.2.1
  have c0 : w1.cell? ⟨p, 0, none⟩ = some (.pointer (some ⟨q, 0, none⟩)) := (jm_cells hjm1).1
  have c3 : w1.cell? ⟨p, 3, none⟩ = some lv := (jm_cells hjm1).2.2.2.1
  have c4 : w1.cell? ⟨p, 4, none⟩ = some (.int .i64 s.now) := by simp [World.cell?, hjm1.2.1, jC]
  have c5 : w1.cell? ⟨p, 5, none⟩ = some (.int .i64 (lenJ s.rs)) := by simp [World.cell?, hjm1.2.1, jC]
  obtain ⟨a0, cap, rfl⟩ : ∃ a0 cap, lv = .slice a0 (lenJ os) cap := by
    rcases h.lr.2 with ⟨rfl, h'⟩ | ⟨g, cap, cur, rfl, _⟩
    · exact ⟨none, 0, by rw [h']⟩
    · exact ⟨_, _, rfl⟩
  have cN0 : ∀ w', Below M w1 w' → Calls Tryz.prog 66 #[.pointer (some ⟨q, 0, none⟩), .int .i64 0] w' fun e w'' => e = .returned (.int .u64 (nextP a b s.told)) ∧ Below w'.heap.size w' w'' := fun w' hk => pnext (h1.pd.below (by rw [hM]; exact hk))
  have cRm : ∀ w', Below M w1 w' → Calls Tryz.prog 46 #[.pointer (some ⟨p, 0, none⟩)] w' fun e w'' => e = .returned (.int .i64 (64 * manyN s.n : Nat)) ∧ Below w'.heap.size w' w'' := fun w' hk =>
    jroom w' N p q s.n sv _ S [] ((hk.cell (p := ⟨p, 0, none⟩) hpM).trans c0) (h1.pd.dsk.below (by rw [hM]; exact hk)) h1.dx.len (by have := h1.dx.least; omega)
  have hroom := h.dx.room
  have hmm : manyN s.n = (s.n - 2) / 2 := rfl
  have hmost := h.dx.most
  have hub : lenJ s.rs ≤ 31936 := by omega
  have HL := Lib.hid (And.intro hroom (And.intro hmm hmost))
  obtain ⟨n, hn⟩ : ∃ n, lenJ os = n := ⟨_, rfl⟩
  obtain ⟨u, hu⟩ : ∃ u, lenJ s.rs = u := ⟨_, rfl⟩
  obtain ⟨t, ht⟩ : ∃ t, nextP a b s.told = t := ⟨_, rfl⟩
  obtain ⟨R, hR⟩ : ∃ R, 64 * manyN s.n = R := ⟨_, rfl⟩
  rw [hn] at hl c3
  rw [hu] at hub c5
  simp only [ht] at cN0
  have cN : ∀ w', (M ≤ w'.heap.size ∧ Below M w1 w' ∧ ∀ b o, b < M → w'.cell? ⟨b, o, none⟩ = w1.cell? ⟨b, o, none⟩) → Calls Tryz.prog 66 #[.pointer (some ⟨q, 0, none⟩), .int .i64 0] w' fun e w'' => e = .returned (.int .u64 t) ∧ Stays M w' w'' ∧ Below w'.heap.size w' w'' := fun w' hk =>
    (cN0 w' hk.2.1).mono fun e w'' q => ⟨q.1, stays_of hk.1 q.2, q.2⟩
  simp only [hR] at cRm
  have HE := Lib.hid (And.intro hn (And.intro hu (And.intro ht hR)))
  have H1 := Lib.hid h1
  clear h h1 hjm1 hroom hmm hmost hn hu ht hR hM hb1 hQ
  go_cut [3] from 7 to 29 (fun tv wx => ∃ X : Nat, M ≤ X ∧ tv = .pointer (some ⟨X, 0, none⟩) ∧ wx.heap[X]? = some (.cells #[.int .i64 s.now, .int .i64 (u + n : Nat), .int .u64 t] 62) ∧ Below M w1 wx)
  case first =>
    go_region_held3 (fun w' => M ≤ w'.heap.size ∧ Below M w1 w' ∧ ∀ b o, b < M → w'.cell? ⟨b, o, none⟩ = w1.cell? ⟨b, o, none⟩) (first | exact keeps_start HM.out | exact keeps_next (by assumption) hz | exact keeps_alloc (by assumption) | exact keeps_alloc (keeps_next (keeps_start HM.out) hz) | exact keeps_set (keeps_set (keeps_set (by assumption) (Nat.le_of_eq HM.out.symm)) (Nat.le_of_eq HM.out.symm)) (Nat.le_of_eq HM.out.symm)) (first | (go_at_call 66; (with_reducible refine Calls.mono (cN _ (by assumption)) ?_); rintro e wz ⟨rfl, hz, hzb⟩; (first | (have hX : wz.heap[w1.heap.size]? = some (.cells #[.int .i64 0, .int .i64 0, .int .u64 0] 62) := below_at hzb (lt_heap (heap_alloc_self w1.drew _)) (heap_alloc_self w1.drew _); have x0 : wz.cell? ⟨w1.heap.size, 0, none⟩ = some (.int .i64 0) := (by simp [World.cell?, hX]); have x1 : wz.cell? ⟨w1.heap.size, 1, none⟩ = some (.int .i64 0) := (by simp [World.cell?, hX]); have x2 : wz.cell? ⟨w1.heap.size, 2, none⟩ = some (.int .u64 0) := (by simp [World.cell?, hX]); have y0 : ∀ o, wz.frozen? ⟨w1.heap.size, o, none⟩ = false := (fun o => by simp [World.frozen?, hX])) | skip)))
    · rename_i hfin
      go_wp2_with fail
      go_meet
      have hwr : IntKind.i64.wrap ((u : Int) + (n : Int)) = ((u + n : Nat) : Int) := by rw [IntKind.wrap_i64]; omega
      rw [hwr]
      exact ⟨_, hz.1, rfl, heap_alloc_self wz _, (below_of_drew hz.2).trans ((Below.refl _ _).alloc hz.1 _)⟩
    · rename_i hfin
      have hMX : M ≤ w1.heap.size := Nat.le_of_eq HM.out.symm
      have hwr : IntKind.i64.wrap ((u : Int) + (n : Int)) = ((u + n : Nat) : Int) := by rw [IntKind.wrap_i64]; omega
      have hk := heap_set_self (heap_set_self (heap_set_self hX 0 (.int .i64 s.now)) 1 (.int .i64 (u + n : Nat))) 2 (.int .u64 t)
      go_wp2_with fail
      go_meet
      rw [hwr]
      refine ⟨_, hMX, rfl, ?_, ?_⟩
      · rw [hk]
        rfl
      · rw [hwr] at hfin
        exact hfin.2.1
  case rest =>
    obtain ⟨X, hMX, rfl, hXc, hbx⟩ := hcut
    obtain ⟨M2, hM2⟩ : ∃ M2, wc.heap.size = M2 := ⟨_, rfl⟩
    have HM2 := Lib.hid hM2
    have hXl : X < M2 := by rw [← hM2]; exact lt_heap hXc
    have hMM : M ≤ M2 := by rw [← hM2]; exact Nat.le_trans (Nat.le_of_eq HM.out.symm) hbx.size
    have hx1 : wc.cell? ⟨X, 1, none⟩ = some (.int .i64 (u + n : Nat)) := by simp [World.cell?, hXc]
    have cR2 : ∀ w', (M2 ≤ w'.heap.size ∧ Below M2 wc w' ∧ ∀ b o, b < M2 → w'.cell? ⟨b, o, none⟩ = wc.cell? ⟨b, o, none⟩) → Calls Tryz.prog 46 #[.pointer (some ⟨p, 0, none⟩)] w' fun e w'' => e = .returned (.int .i64 R) ∧ Stays M2 w' w'' := fun w' hk =>
      (cRm w' (hbx.trans (hk.2.1.mono hMM))).mono fun e w'' q => ⟨q.1, stays_of hk.1 q.2⟩
    clear hM2 cN cN0 cRm
    go_upto_region 2 with fail
    go_region_held3 (fun w' => M2 ≤ w'.heap.size ∧ Below M2 wc w' ∧ ∀ b o, b < M2 → w'.cell? ⟨b, o, none⟩ = wc.cell? ⟨b, o, none⟩) (first | exact keeps_start HM2.out | exact keeps_next (by assumption) hz) (first | (go_at_call 46; (with_reducible refine Calls.mono (cR2 _ (by assumption)) ?_); rintro e wz ⟨rfl, hz⟩))
    rename_i hfin2
    clear hfin2
    have hbz : Below M w1 wz := hbx.trans ((below_of_drew hz.2).mono hMM)
    have hjz := H1.out.below (by rw [HM.out]; exact hbz)
    have hXz : wz.heap[X]? = some (.cells #[.int .i64 s.now, .int .i64 (u + n : Nat), .int .u64 t] 62) := (hz.2.block X hXl).trans hXc
    have hQz : wz.heap[Q]? = some (.cells #[.int .i64 0, .int .i64 0, .int .u64 0] 62) := (hbz.block Q (by have := lt_heap hx1'; rw [HM.out] at this; exact this)).trans hx1'
    have hQX : Q ≠ X := by have := lt_heap hx1'; rw [HM.out] at this; omega
    have HZ := Lib.hid (And.intro hbz (And.intro hjz (And.intro hXz (And.intro hQz hQX))))
    have d0 : wz.cell? ⟨p, 0, none⟩ = some (.pointer (some ⟨q, 0, none⟩)) := (jm_cells hjz.jm).1
    have d3 : wz.cell? ⟨p, 3, none⟩ = some (.slice a0 n cap) := by rw [← HE.out.1]; exact (jm_cells hjz.jm).2.2.2.1
    have d5 : wz.cell? ⟨p, 5, none⟩ = some (.int .i64 u) := by rw [← HE.out.2.1]; simp [World.cell?, hjz.jm.2.1, jC]
    have e0 : wz.cell? ⟨X, 0, none⟩ = some (.int .i64 s.now) := by simp [World.cell?, hXz]
    have hpz : p < wz.heap.size := lt_heap hjz.jm.2.1
    have hXzl : X < wz.heap.size := lt_heap hXz
    clear hbz hjz hXz hQz hQX hbx hXc hx1 c0 c3 c4 c5 cR2 hz
    by_cases hfit : u + n ≤ R
    · have hfi : (u : Int) + (n : Int) ≤ (R : Int) := by omega
      obtain ⟨hbz, hjz, hXz, hQz, hQX⟩ := HZ.out
      have hdz := hjz.pd.dsk
      have hla := hjz.lr
      have hcv : (convert 60 9 (.slice a0 n cap)).run Tryz.prog wz.drew = .ok (.string ⟨(os.flatMap JO.b).toArray⟩) wz.drew := by
        have := conv_own (w := wz.drew) hla
        rw [HE.out.1] at this
        exact this
      have cA : Calls Tryz.prog 29 #[.pointer (some ⟨p, 0, none⟩), .int .i64 s.now] wz.drew fun e w'' => e = .returned (areaV ((2 + s.now * manyN s.n : Nat) : Int) ((manyN s.n : Nat) : Int)) ∧ Below wz.drew.heap.size wz.drew w'' :=
        jarea wz.drew N p q s.now s.n sv _ S [] d0 (hdz.drewN 1) hjz.dx.len (by have := hjz.dx.least; omega) hjz.dx.now
      have hcvA : ∀ wa, Below wz.drew.heap.size wz.drew wa → (convert 60 9 (.slice a0 n cap)).run Tryz.prog wa = .ok (.string ⟨(os.flatMap JO.b).toArray⟩) wa := fun wa hba => by
        have := conv_own (owns_below (w := wz.drew) hla hba)
        rw [HE.out.1] at this
        exact this
      have hcvB : ∀ wb, TK wz wb [58, 9, 117] → (convert 60 9 (.slice a0 n cap)).run Tryz.prog wb = .ok (.string ⟨(os.flatMap JO.b).toArray⟩) wb := fun wb hw => by
        have := conv_own (owns_tk hla hw (by decide))
        rw [HE.out.1] at this
        exact this
      have hts : (⟨(os.flatMap JO.b).toArray⟩ : ByteArray).size = n := by
        rw [← HE.out.1]
        show (os.flatMap JO.b).toArray.size = _
        simp [lenJ]
      have cW : ∀ wa, Below wz.drew.heap.size wz.drew wa → Calls Tryz.prog 67 #[.pointer (some ⟨q, 0, none⟩), areaV ((2 + s.now * manyN s.n : Nat) : Int) ((manyN s.n : Nat) : Int), .int .i64 u, .string ⟨(os.flatMap JO.b).toArray⟩] wa fun e wb => e = .returned (.int .i64 0) ∧ ∃ lv2 L2, Dsk wb N q sv lv2 S L2 ∧ Laid S [] L2 (64 * (2 + s.now * manyN s.n) + u) n n ⟨(os.flatMap JO.b).toArray⟩ ∧ Below N wz wb ∧ TK wz wb [58, 9, 117] := by
        intro wa hba
        have hda := Dsk.below (w := wz.drew) (hdz.drewN 1) hba
        obtain ⟨k1, k2, k3⟩ := HL.out
        have kR := HE.out.2.2.2
        have klen := hjz.dx.len
        have know := hjz.dx.now
        have hmul : s.now * manyN s.n ≤ manyN s.n := by
          have : s.now = 0 ∨ s.now = 1 := by omega
          rcases this with e | e <;> rw [e] <;> omega
        have k4 := hjz.dx.least
        have kF : (2 + s.now * manyN s.n) + manyN s.n ≤ s.n := by
          have : s.now = 0 ∨ s.now = 1 := by omega
          rcases this with e | e <;> rw [e] <;> omega
        generalize 2 + s.now * manyN s.n = F at *
        generalize manyN s.n = m at *
        have hmay : mayA F m = true := (mayA_iff _ _).2 (by omega)
        have hb : bytesA F m = 64 * (m : Int) := by unfold bytesA; rw [if_pos hmay]
        have hwi : withinA F m u (⟨(os.flatMap JO.b).toArray⟩ : ByteArray).size = true := by
          rw [hts]
          unfold withinA
          rw [hmay, hb]
          simp only [Bool.true_and, Bool.and_eq_true, decide_eq_true_eq]
          omega
        refine (awrite F m u _ wa N q sv _ S [] hda (by rw [hts]; simp; omega) hwi).mono ?_
        rintro e wb ⟨r, k, rfl, hrk, hwr⟩
        rw [hts] at hrk hwr
        obtain ⟨rfl, rfl⟩ := hrk (by omega)
        obtain ⟨lv2, L2, g1, g2, g3⟩ := hwr.ex
        have hbb : Below N wz wa := (below_of_drew hba).mono hdz.le
        exact ⟨rfl, lv2, L2, g1, g2, hbb.trans g3.below, (TK.of_below (below_of_drew hba) _).trans (g3.tk hda)⟩
      obtain ⟨TXT, hTXT⟩ : ∃ T : ByteArray, (⟨(os.flatMap JO.b).toArray⟩ : ByteArray) = T := ⟨_, rfl⟩
      rw [hTXT] at hcv
      simp only [hTXT] at hcvA hcvB cW
      have HT := Lib.hid hTXT
      unfold areaV at cA cW
      obtain ⟨F, hF⟩ : ∃ F, 2 + s.now * manyN s.n = F := ⟨_, rfl⟩
      obtain ⟨mm, hmm⟩ : ∃ mm, manyN s.n = mm := ⟨_, rfl⟩
      simp only [hF] at cA cW
      simp only [hmm] at cA cW
      have HF := Lib.hid (And.intro hF hmm)
      have HP := Lib.hid hjz.jm.2.1
      have hpQ := HZ.out
      clear hbz hjz hXz hQz hQX hdz hla hts hTXT hF hmm hpQ
      go_upto_region 3 with fail
      go_region_held3 (fun w' => (∀ o, w'.cell? ⟨p, o, none⟩ = wz.cell? ⟨p, o, none⟩) ∧ (∀ o, w'.cell? ⟨X, o, none⟩ = wz.cell? ⟨X, o, none⟩) ∧ (convert 60 9 (.slice a0 n cap)).run Tryz.prog w' = .ok (.string TXT) w') (first | exact ⟨fun o => rfl, fun o => rfl, hcv⟩ | exact hSB | exact hSA) (first | (go_at_call 29; (with_reducible refine Calls.mono cA ?_); rintro e wa ⟨rfl, hba⟩; have cWa := cW wa hba; have hSA := And.intro (fun o => hba.cell (p := ⟨p, o, none⟩) hpz) (And.intro (fun o => hba.cell (p := ⟨X, o, none⟩) hXzl) (hcvA wa hba))) | (go_at_call 67; (with_reducible refine Calls.mono cWa ?_); rintro e wb ⟨rfl, hW⟩; have HW := Lib.hid hW; obtain ⟨lv2, L2, hw1, hw2, hw3, hw4⟩ := hW; have hSB := And.intro (cell_tk hw4 HP.out (by decide)) (And.intro (cell_tk hw4 HZ.out.2.2.1 (by decide)) (hcvB wb hw4))))
      all_goals
        rename_i hfin
        clear hfin
        obtain ⟨hbz, hjz, hXz, hQz, hQX⟩ := HZ.out
        have hXb := hw4 X _ _ _ hXz (by decide)
        have hQb := hw4 Q _ _ _ hQz (by decide)
        have b0 : wb.cell? ⟨X, 0, none⟩ = some (.int .i64 s.now) := by simp [World.cell?, hXb]
        have b1 : wb.cell? ⟨X, 1, none⟩ = some (.int .i64 (u + n : Nat)) := by simp [World.cell?, hXb]
        have b2 : wb.cell? ⟨X, 2, none⟩ = some (.int .u64 t) := by simp [World.cell?, hXb]
        have q0 : wb.cell? ⟨Q, 0, none⟩ = some (.int .i64 0) := by simp [World.cell?, hQb]
        have q1 : wb.cell? ⟨Q, 1, none⟩ = some (.int .i64 0) := by simp [World.cell?, hQb]
        have q2 : wb.cell? ⟨Q, 2, none⟩ = some (.int .u64 0) := by simp [World.cell?, hQb]
        have qf : ∀ o, wb.frozen? ⟨Q, o, none⟩ = false := fun o => by simp [World.frozen?, hQb]
        have hend := lay_end (t := t) HB1.out.1 HB1.out.2.1 HB1.out.2.2 (by rw [HM.out]; exact hbz) (hw4.mono (by decide)) hw3 hQb s.now (u + n) hw1
        have hly := lyd_app (L := L2) HH.out.dx HH.out.ok (by rw [HE.out.1, HE.out.2.1, HE.out.2.2.2]; exact hfit) (by rw [HE.out.1, HE.out.2.1, HF.out.1, HT.out]; exact hw2)
        have HEND := Lib.hid (And.intro hend hly)
        clear hbz hjz hXz hQz hw1 hw2 hw3 hw4 hXb hQb hend hly hSA hSB
        go_wp2_with fail
        obtain ⟨⟨⟨hw5, hw6, hw7⟩, hw8⟩, hly⟩ := HEND.out
        simp only [Int.natCast_add] at hw5 hw6 hw7 hw8
        generalize ((wb.setCell ⟨Q, 0, none⟩ (.int .i64 s.now)).setCell ⟨Q, 1, none⟩ (.int .i64 ((u : Int) + (n : Int)))).setCell ⟨Q, 2, none⟩ (.int .u64 t) = wf at *
        refine bodyPost_ret (v := .agg #[.int .i64 s.now, .int .i64 ((u : Int) + (n : Int)), .int .u64 t]) (by simp [results, Tryz.results38, go_sem, hw8.1, hw8.2.1, hw8.2.2]) rfl ?_
        refine ⟨s.now, s.rs ++ os, L2, lv2, ?_, hly, hw5, hw6, hw7⟩
        rw [lenJ_app, HE.out.1, HE.out.2.1, HE.out.2.2.1, Int.natCast_add]
    · have hfi : ¬ (u : Int) + (n : Int) ≤ (R : Int) := by omega
      obtain ⟨hbz, hjz, hXz, hQz, hQX⟩ := HZ.out
      obtain ⟨pa, pcap, rfl, -, -⟩ := (SR.owns hjz.jm.2.2).form
      have hbf := bfresh wz
      have hb5 : Below wz.heap.size wz (wz.alloc (.cells #[.pointer none, .slice none 0 0] 108)) := (Below.refl _ _).alloc (Nat.le_refl _) _
      have hmany := hjz.many
      have hoks := hjz.oks
      obtain ⟨l, hle⟩ : ∃ l, nowJ s os = l := ⟨_, rfl⟩
      rw [hle] at hmany hoks
      have hjm := hjz.jm
      rw [hle] at hjm
      have hl3 : l.length ≤ 31936 := hmany.2.2.2.2
      have hsl : sizeJ l ≤ 31936 := hmany.2.2.2.1
      obtain ⟨m, hm⟩ : ∃ m, l.length = m := ⟨_, rfl⟩
      have HLE := Lib.hid (And.intro hle (And.intro hm (And.intro hoks hsl)))
      have HJM := Lib.hid hjm
      have HBF := Lib.hid hbf
      have HB5 := Lib.hid hb5
      obtain ⟨b5, hbe⟩ : ∃ b5, wz.heap.size = b5 := ⟨_, rfl⟩
      rw [hbe] at HBF HB5
      have HBE := Lib.hid hbe
      have hpb : p < b5 := by rw [← hbe]; exact hpz
      have hXb : X < b5 := by rw [← hbe]; exact hXzl
      rw [hm] at hl3
      have c1 : (wz.alloc (.cells #[.pointer none, .slice none 0 0] 108)).cell? ⟨p, 1, none⟩ = some (.slice pa m pcap) := by
        have := hb5.cell (p := ⟨p, 1, none⟩) hpz
        rw [this, ← hm]
        exact (jm_cells hjm).2.1
      clear hbz hjz hXz hQz hQX hbf hb5 hmany hoks hle hjm hsl hm hbe
      go_upto_region 6 with fail
      generalize wz.alloc (.cells #[.pointer none, .slice none 0 0] 108) = w5 at *
      try simp only [HBE.out]
      go_wp2_with fail
      go_loopw [59] (fun iv wr => ∃ i : Nat, i ≤ m ∧ iv = .int .i64 i ∧ Hid (BT b5 b5 ((allJ (l.take i)).flatMap JO.b) wr) ∧ Hid (Below b5 w5 wr)) (fun iv _ => m - (intOf iv).toNat)
      case atStart => exact ⟨0, by omega, rfl, by rw [List.take_zero]; exact HBF, Lib.hid (Below.refl _ _)⟩
      case round =>
        obtain ⟨i, hi, rfl, HBT, HBR⟩ := hrel
        by_cases hlt : i < m
        · have hil : i < l.length := by rw [HLE.out.2.1]; exact hlt
          have hx : l[i]? = some l[i] := List.getElem?_eq_getElem hil
          generalize l[i] = x at hx
          have hxo := HLE.out.2.2.1 x (List.mem_of_getElem? hx)
          have hjr := HJM.out.below (by rw [HBE.out]; exact HB5.out.trans HBR.out)
          obtain ⟨hlen, hq1, hq2, b0, off, rfl, r0, r1⟩ := jm_pair hjr i x hx
          have hlti : (i : Int) < (m : Int) := by omega
          have hb6 : Below wr.heap.size wr (wr.alloc (.cells #[.string x.k, .string x.v] 43)) := (Below.refl _ _).alloc (Nat.le_refl _) _
          have hx6 := heap_alloc_self wr (.cells #[.string x.k, .string x.v] 43)
          have HX6 := Lib.hid (And.intro hb6 (And.intro hx6 (And.intro hx hxo)))
          have hmc : m ≤ pcap := by rw [← HLE.out.2.1]; exact hq1
          unfold maxLen at hq2
          have cR := fun w => jrecord x w (by omega) (by omega)
          clear hjr hlen hq1 hb6 hx6 hx hxo
          go_upto_region 9 with fail
          generalize wr.alloc (.cells #[.string x.k, .string x.v] 43) = w6 at *
          have hY := HX6.out.2.1
          obtain ⟨Y, hYe⟩ : ∃ Y, wr.heap.size = Y := ⟨_, rfl⟩
          rw [hYe] at hY
          try simp only [hYe]
          have y0 : w6.cell? ⟨Y, 0, none⟩ = some (.string x.k) := by simp [World.cell?, hY]
          have y1 : w6.cell? ⟨Y, 1, none⟩ = some (.string x.v) := by simp [World.cell?, hY]
          clear hY hYe r0 r1
          go_wp2_with fail
          refine Calls.mono (cR _) ?_
          rintro e w7 ⟨rfl, hb7⟩
          have hb67 := HX6.out.1.trans (hb7.mono HX6.out.1.size)
          have hb57 : b5 ≤ w7.heap.size := Nat.le_trans (by rw [← HBE.out]; exact HB5.out.size) (Nat.le_trans HBR.out.size hb67.size)
          have hal := all_le l i
          have hrl := recS_le x HX6.out.2.2.2.2.1 HX6.out.2.2.2.2.2
          have cw := bwrite b5 b5 _ (recS x) w7 (bt_below HBT.out hb67) (by have := HLE.out.2.2.2; omega) hb57
          have HB7 := Lib.hid hb67
          have HRS := Lib.hid (show (recS x).data.toList = JO.b ⟨x.k, x.v, false⟩ from rfl)
          generalize recS x = RX at *
          clear hb7 hb67 hb57 hal hrl cR
          go_wp2_with fail
          refine Calls.mono cw ?_
          rintro e w8 ⟨rfl, hbt8, hb8⟩
          have HBT8 := Lib.hid hbt8
          have HB8 := Lib.hid ((HBR.out.trans (HB7.out.mono (Nat.le_trans (by rw [← HBE.out]; exact HB5.out.size) HBR.out.size))).trans hb8)
          clear cw hbt8 hb8
          go_wp2_with fail
          go_roundw
          case rel => exact ⟨i + 1, by omega, by go_num, by rw [allJ_snoc l i x HX6.out.2.2.1, ← HRS.out]; exact HBT8, HB8⟩
          case measure => simp [intOf]; omega
        · obtain rfl : i = m := by omega
          obtain ⟨hbz, hjz, hXz, hQz, hQX⟩ := HZ.out
          obtain ⟨hle, hm, hoks, hsl⟩ := HLE.out
          have htake : l.take i = l := List.take_of_length_le (by omega)
          rw [htake] at HBT
          have hbr : Below wz.heap.size wz wr := by rw [HBE.out]; exact HB5.out.trans HBR.out
          have hTr : TK wz wr [62] := TK.of_below hbr _
          have hXr := (hbr.block X hXzl).trans hXz
          have hjr := HJM.out.below hbr
          have d4 : wr.cell? ⟨p, 4, none⟩ = some (.int .i64 s.now) := by simp [World.cell?, hjr.2.1, jC]
          have x0 : wr.cell? ⟨X, 0, none⟩ = some (.int .i64 s.now) := by simp [World.cell?, hXr]
          have xf : ∀ o, wr.frozen? ⟨X, o, none⟩ = false := fun o => by simp [World.frozen?, hXr]
          have hsub : (1 : Int) - (s.now : Int) = ((1 - s.now : Nat) : Int) := by have := hjz.dx.now; omega
          have hnow1 : s.now ≤ 1 := hjz.dx.now
          have HR := Lib.hid (And.intro hTr (And.intro hXr hbr))
          clear hbz hjz hXz hQz hQX hle hm hoks hsl htake hbr hTr hXr hjr HBR
          go_upto_region 12 with fail
          obtain ⟨hTr, hXr, hbr⟩ := HR.out
          have hNX : N ≤ X := Nat.le_trans hNQ (Nat.le_trans (by have := lt_heap hx1'; rw [HM.out] at this; omega) hMX)
          have hNz : N ≤ wz.heap.size := HZ.out.2.1.pd.dsk.le
          have hQr : wr.heap[Q]? = some (.cells #[.int .i64 0, .int .i64 0, .int .u64 0] 62) := (hbr.block Q (lt_heap HZ.out.2.2.2.1)).trans HZ.out.2.2.2.1
          have hQ9 := (show (wr.setCell ⟨X, 0, none⟩ (.int .i64 ((1 - s.now : Nat) : Int))).heap[Q]? = wr.heap[Q]? from heap_setCell_other _ _ _ _ HZ.out.2.2.2.2).trans hQr
          have hX9 := heap_set_self hXr 0 (.int .i64 ((1 - s.now : Nat) : Int))
          have hT9 := hTr.trans (tk_set (o := 0) (v := .int .i64 ((1 - s.now : Nat) : Int)) hXr)
          have hB9 := bt_tk HBT.out (tk_set (o := 0) (v := .int .i64 ((1 - s.now : Nat) : Int)) hXr) (by decide) (by decide)
          have hN9 := (hbr.mono hNz).setCell (p := ⟨X, 0, none⟩) hNX (.int .i64 ((1 - s.now : Nat) : Int))
          have hs9 : b5 ≤ (wr.setCell ⟨X, 0, none⟩ (.int .i64 ((1 - s.now : Nat) : Int))).heap.size := by rw [← HBE.out]; simpa using hbr.size
          generalize wr.setCell ⟨X, 0, none⟩ (.int .i64 ((1 - s.now : Nat) : Int)) = w9 at *
          have cl := blenJ b5 b5 _ w9 hB9
          obtain ⟨len, hlen⟩ : ∃ len, ((allJ l).flatMap JO.b).length = len := ⟨_, rfl⟩
          rw [hlen] at cl
          have x1 : w9.cell? ⟨X, 1, none⟩ = some (.int .i64 (u + n : Nat)) := by simp [World.cell?, hX9]
          have xg : ∀ o, w9.frozen? ⟨X, o, none⟩ = false := fun o => by simp [World.frozen?, hX9]
          have hX10 := heap_set_self hX9 1 (.int .i64 (len : Int))
          have hT10 := hT9.trans (tk_set (o := 1) (v := .int .i64 (len : Int)) hX9)
          have hB10 := bt_tk hB9 (tk_set (o := 1) (v := .int .i64 (len : Int)) hX9) (by decide) (by decide)
          have hN10 := hN9.setCell (p := ⟨X, 1, none⟩) hNX (.int .i64 (len : Int))
          have hQ10 := (show (w9.setCell ⟨X, 1, none⟩ (.int .i64 (len : Int))).heap[Q]? = w9.heap[Q]? from heap_setCell_other _ _ _ _ HZ.out.2.2.2.2).trans hQ9
          have H10 := Lib.hid (And.intro hX10 (And.intro hT10 (And.intro hB10 (And.intro hN10 (And.intro hlen (And.intro hs9 hQ10))))))
          clear hTr hXr hbr hX9 hT9 hB9 hN9 hX10 hT10 hB10 hN10 hlen hs9 d4 x0 xf hsub hQr hQ9 hQ10
          go_wp2_with fail
          refine Calls.mono cl ?_
          rintro e w10 ⟨rfl, rfl⟩
          go_upto_region 13 with fail
          obtain ⟨hX10, hT10, hB10, hN10, hlen, hs9, hQ10'⟩ := H10.out
          have hs10 : b5 ≤ (w9.setCell ⟨X, 1, none⟩ (.int .i64 (len : Int))).heap.size := by simpa using hs9
          generalize w9.setCell ⟨X, 1, none⟩ (.int .i64 (len : Int)) = w10 at *
          obtain ⟨hbz, hjz, hXz, hQz, hQX⟩ := HZ.out
          have hdz := hjz.pd.dsk
          have hpz2 := HJM.out.2.1
          have SG : ∀ w', (TK wz w' [62] ∧ Below b5 w10 w' ∧ b5 ≤ w'.heap.size) → (∀ o, w'.cell? ⟨p, o, none⟩ = w10.cell? ⟨p, o, none⟩) ∧ (∀ o, w'.cell? ⟨X, o, none⟩ = w10.cell? ⟨X, o, none⟩) := fun w' hG => ⟨fun o => hG.2.1.cell (p := ⟨p, o, none⟩) hpb, fun o => hG.2.1.cell (p := ⟨X, o, none⟩) hXb⟩
          have hG0 : TK wz w10.drew [62] ∧ Below b5 w10 w10.drew ∧ b5 ≤ w10.drew.heap.size := ⟨hT10, (Below.refl _ _).drew, hs10⟩
          have GA : ∀ {w' w'' : World}, (TK wz w' [62] ∧ Below b5 w10 w' ∧ b5 ≤ w'.heap.size) → Below w'.heap.size w' w'' → (TK wz w'' [62] ∧ Below b5 w10 w'' ∧ b5 ≤ w''.heap.size) := fun h hb => ⟨h.1.trans (TK.of_below hb _), h.2.1.trans (hb.mono h.2.2), Nat.le_trans h.2.2 hb.size⟩
          have GS : ∀ {w' w'' : World}, (TK wz w' [62] ∧ Below b5 w10 w' ∧ b5 ≤ w'.heap.size) → Below b5 w' w'' → (TK wz w'' [62] ∧ Below b5 w10 w'' ∧ b5 ≤ w''.heap.size) := fun h hb => ⟨h.1.belowB (Nat.le_of_eq HBE.out) hb, h.2.1.trans hb, Nat.le_trans h.2.2 hb.size⟩
          have cA : ∀ w', (TK wz w' [62] ∧ Below b5 w10 w' ∧ b5 ≤ w'.heap.size) → Calls Tryz.prog 29 #[.pointer (some ⟨p, 0, none⟩), .int .i64 ((1 - s.now : Nat) : Int)] w' fun e w'' => e = .returned (areaV ((2 + (1 - s.now) * manyN s.n : Nat) : Int) ((manyN s.n : Nat) : Int)) ∧ Below w'.heap.size w' w'' := fun w' hG =>
            jarea w' N p q (1 - s.now) s.n sv _ S [] ((cell_tk hG.1 hpz2 (by decide) 0).trans d0) (hdz.tk hG.1 (by decide) (by decide) (by decide)) hjz.dx.len (by have := hjz.dx.least; omega) (by omega)
          obtain ⟨bs, hbs⟩ : ∃ bs, (allJ l).flatMap JO.b = bs := ⟨_, rfl⟩
          rw [hbs] at hB10 hlen
          have cS : ∀ w', BT b5 b5 bs w' → b5 ≤ w'.heap.size → Calls Tryz.prog 70 #[.pointer (some ⟨b5, 0, none⟩)] w' fun e w'' => e = .returned (.string ⟨bs.toArray⟩) ∧ Below b5 w' w'' := fun w' hb hs => bstring b5 b5 bs w' hb hs
          have hts : (⟨bs.toArray⟩ : ByteArray).size = len := by
            rw [← hlen]
            show bs.toArray.size = _
            simp
          have hlen2 : len = sizeJ l := by rw [← hlen, ← hbs]; rfl
          have hfit2 : sizeJ l ≤ 64 * manyN s.n := by have := hjz.fit; rw [HLE.out.1] at this; exact this
          have cW : ∀ w', (TK wz w' [62] ∧ Below b5 w10 w' ∧ b5 ≤ w'.heap.size) → Calls Tryz.prog 67 #[.pointer (some ⟨q, 0, none⟩), areaV ((2 + (1 - s.now) * manyN s.n : Nat) : Int) ((manyN s.n : Nat) : Int), .int .i64 0, .string ⟨bs.toArray⟩] w' fun e wb => e = .returned (.int .i64 0) ∧ ((∀ o, wb.cell? ⟨p, o, none⟩ = w10.cell? ⟨p, o, none⟩) ∧ (∀ o, wb.cell? ⟨X, o, none⟩ = w10.cell? ⟨X, o, none⟩)) ∧ ∃ lv2 L2, Dsk wb N q sv lv2 S L2 ∧ Laid S [] L2 (64 * (2 + (1 - s.now) * manyN s.n) + 0) len len ⟨bs.toArray⟩ ∧ Below N wz wb ∧ TK wz wb [58, 9, 117, 62] ∧ wb.heap[Q]? = some (.cells #[.int .i64 0, .int .i64 0, .int .u64 0] 62) := by
            intro w' hG
            have hda := hdz.tk hG.1 (by decide) (by decide) (by decide)
            obtain ⟨k1, k2, k3⟩ := HL.out
            have klen := hjz.dx.len
            have k4 := hjz.dx.least
            have kF : (2 + (1 - s.now) * manyN s.n) + manyN s.n ≤ s.n := by
              have : s.now = 0 ∨ s.now = 1 := by omega
              rcases this with e | e <;> rw [e] <;> simp only [Nat.sub_zero, Nat.sub_self, Nat.zero_mul, Nat.one_mul] <;> omega
            generalize 2 + (1 - s.now) * manyN s.n = F at *
            generalize manyN s.n = mm at *
            have hmay : mayA F mm = true := (mayA_iff _ _).2 (by omega)
            have hb : bytesA F mm = 64 * (mm : Int) := by unfold bytesA; rw [if_pos hmay]
            have hwi : withinA F mm (0 : Nat) (⟨bs.toArray⟩ : ByteArray).size = true := by
              rw [hts]
              unfold withinA
              rw [hmay, hb]
              simp only [Bool.true_and, Bool.and_eq_true, decide_eq_true_eq]
              omega
            have c := awrite F mm 0 ⟨bs.toArray⟩ w' N q sv _ S [] hda (by rw [hts]; simp; omega) hwi
            refine c.mono ?_
            rintro e wb ⟨r, k, rfl, hrk, hwr⟩
            rw [hts] at hrk hwr
            obtain ⟨rfl, rfl⟩ := hrk (by omega)
            obtain ⟨lv2, L2, g1, g2, g3⟩ := hwr.ex
            have hTd := g3.tk hda
            have hXw : w'.heap[X]? = some _ := (hG.2.1.block X hXb).trans hX10
            have hQw : w'.heap[Q]? = w10.heap[Q]? := hG.2.1.block Q (by have := lt_heap hQz; rw [HBE.out] at this; exact this)
            have hpw := hG.1 p _ _ _ hpz2 (by decide)
            have hQ10 : w10.heap[Q]? = some (.cells #[.int .i64 0, .int .i64 0, .int .u64 0] 62) := hQ10'
            refine ⟨rfl, ⟨fun o => (cell_tk hTd hpw (by decide) o).trans ((SG w' hG).1 o), fun o => (cell_tk hTd hXw (by decide) o).trans ((SG w' hG).2 o)⟩, lv2, L2, g1, g2, (hN10.trans (hG.2.1.mono (by have := HZ.out.2.1.pd.dsk.le; rw [HBE.out] at this; exact this))).trans g3.below, (hG.1.mono (by decide)).trans (hTd.mono (by decide)), hTd Q _ _ _ (hQw.trans hQ10) (by decide)⟩
          obtain ⟨TXT, hTXT⟩ : ∃ T : ByteArray, (⟨bs.toArray⟩ : ByteArray) = T := ⟨_, rfl⟩
          simp only [hTXT] at cS cW
          have HT := Lib.hid (And.intro hTXT (And.intro hbs (And.intro hlen2 hfit2)))
          unfold areaV at cA cW
          obtain ⟨F, hF⟩ : ∃ F, 2 + (1 - s.now) * manyN s.n = F := ⟨_, rfl⟩
          obtain ⟨mm, hmm⟩ : ∃ mm, manyN s.n = mm := ⟨_, rfl⟩
          simp only [hF] at cA cW
          simp only [hmm] at cA cW
          have HF := Lib.hid (And.intro hF hmm)
          have e0 : w10.cell? ⟨p, 0, none⟩ = some (.pointer (some ⟨q, 0, none⟩)) := (cell_tk hT10 hpz2 (by decide) 0).trans d0
          have e1 : w10.cell? ⟨X, 0, none⟩ = some (.int .i64 ((1 - s.now : Nat) : Int)) := by simp [World.cell?, hX10]
          have HX10 := Lib.hid hX10
          have hB10d : BT b5 b5 bs w10.drew := bt_below hB10 (below_drew' (Below.refl _ _))
          clear hbz hjz hXz hQz hQX hdz hpz2 hTXT hbs hts hlen2 hfit2 hF hmm hT10 hX10 hB10 hN10 hlen hs9 hs10 hQ10' d0 d3 d5 x1 xg c1 cl H10 HBT HR
          go_region_held3 (fun w' => (∀ o, w'.cell? ⟨p, o, none⟩ = w10.cell? ⟨p, o, none⟩) ∧ (∀ o, w'.cell? ⟨X, o, none⟩ = w10.cell? ⟨X, o, none⟩)) (first | exact hSB | exact SG _ hG0 | exact SG _ hGa | exact SG _ hGs) (first | (go_at_call 29; (first | (with_reducible refine Calls.mono (cA _ hGs) ?_) | (with_reducible refine Calls.mono (cA _ hG0) ?_)); rintro e wa ⟨rfl, hba⟩; (first | (have hGa := GA hGs hba) | (have hGa := GA hG0 hba)); (first | (have hBTa := bt_below hB10d hba) | skip)) | (go_at_call 70; (first | (with_reducible refine Calls.mono (cS _ hBTa hGa.2.2) ?_) | (with_reducible refine Calls.mono (cS _ hB10d hG0.2.2) ?_)); rintro e ws ⟨rfl, hbs⟩; (first | (have hGs := GS hGa hbs) | (have hGs := GS hG0 hbs))) | (go_at_call 67; (first | (with_reducible refine Calls.mono (cW _ hGs) ?_) | (with_reducible refine Calls.mono (cW _ hGa) ?_)); rintro e wb ⟨rfl, hSB, hW⟩; obtain ⟨lv2, L2, hw1, hw2, hw3, hw4, hw5⟩ := hW))
          all_goals
            rename_i hfin
            clear hfin
            have b0 : wb.cell? ⟨X, 0, none⟩ = some (.int .i64 ((1 - s.now : Nat) : Int)) := (hSB.2 0).trans e1
            have b1 : wb.cell? ⟨X, 1, none⟩ = some (.int .i64 (len : Int)) := (hSB.2 1).trans (by simp [World.cell?, HX10.out])
            have b2 : wb.cell? ⟨X, 2, none⟩ = some (.int .u64 t) := (hSB.2 2).trans (by simp [World.cell?, HX10.out])
            have q0 : wb.cell? ⟨Q, 0, none⟩ = some (.int .i64 0) := by simp [World.cell?, hw5]
            have q1 : wb.cell? ⟨Q, 1, none⟩ = some (.int .i64 0) := by simp [World.cell?, hw5]
            have q2 : wb.cell? ⟨Q, 2, none⟩ = some (.int .u64 0) := by simp [World.cell?, hw5]
            have qf : ∀ o, wb.frozen? ⟨Q, o, none⟩ = false := fun o => by simp [World.frozen?, hw5]
            have hend := lay_end (t := t) HB1.out.1 HB1.out.2.1 HB1.out.2.2 (by rw [HM.out]; exact HZ.out.1) hw4 hw3 hw5 (1 - s.now) len hw1
            have hly := lyd_all (L := L2) HH.out.dx HH.out.ok HH.out.fit (by
              rw [HLE.out.1, HF.out.1, show lenJ (allJ l) = len from HT.out.2.2.1.symm, HT.out.2.1, HT.out.1]
              exact hw2)
            have hsz : lenJ (allJ (nowJ s os)) = len := by rw [HLE.out.1]; exact HT.out.2.2.1.symm
            have HEND := Lib.hid (And.intro hend (And.intro hly hsz))
            clear hw1 hw2 hw3 hw4 hw5 hend hly hsz hSB e0 e1
            go_wp2_with fail
            obtain ⟨⟨⟨hw5, hw6, hw7⟩, hw8⟩, hly, hsz⟩ := HEND.out
            generalize ((wb.setCell ⟨Q, 0, none⟩ (.int .i64 ((1 - s.now : Nat) : Int))).setCell ⟨Q, 1, none⟩ (.int .i64 (len : Int))).setCell ⟨Q, 2, none⟩ (.int .u64 t) = wf at *
            refine bodyPost_ret (v := .agg #[.int .i64 ((1 - s.now : Nat) : Int), .int .i64 (len : Int), .int .u64 t]) (by simp [results, Tryz.results38, go_sem, hw8.1, hw8.2.1, hw8.2.2]) rfl ?_
            refine ⟨1 - s.now, allJ (nowJ s os), L2, lv2, ?_, hly, hw5, hw6, hw7⟩
            rw [hsz, HE.out.2.2.1]
end Go.Proofs.YtgnnijpfkgmomaaGreatDoor
