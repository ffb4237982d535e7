/-
  image.Unpack, from whatever bytes.
-/
import Derived.Test.YtlhjgpedmnjbpaaImgF
namespace Go.Proofs.Ytlhjgpedmnjbpaa
open Go.RowKit
set_option linter.unusedVariables false
set_option linter.unusedSimpArgs false

def RS.nS (q : RS) : RS := q.numS 18446744073709551615
def RS.nV (q : RS) : Nat := q.numV 18446744073709551615
theorem nV_le (q : RS) : q.nV < 18446744073709551616 := by have := numV_le q 18446744073709551615; unfold RS.nV; omega
theorem unp_stepN (q : RS) (o : List UInt8) (h : q.s ≠ []) : unp q o =
    if q.nS.e ≠ 0 then (q.nS, o) else
    if q.nV / 2 = 0 ∨ 65536 - o.length < q.nV / 2 then (q.nS.fail 3, o) else
    if q.nV % 2 = 0 then unp (q.nS.takeS (q.nV / 2 : Nat)) (o ++ q.nS.takeB (q.nV / 2 : Nat))
    else unp (q.nS.takeS 1) (o ++ repL (q.nS.takeB 1) (q.nV / 2)) := unp_step q o h
theorem nS_short (q : RS) (h : q.s ≠ []) (he : q.nS.e = 0) : q.nS.s.length < q.s.length := numS_short q _ h he
theorem num_max (b : Nat) (q : RS) (w : World) (h : Src w b q) :
    Calls Try.prog 117 #[.pointer (some ⟨b, 0, none⟩), .int .u64 18446744073709551615] w fun e w' => e = .returned (.int .u64 q.nV) ∧ Src w' b q.nS ∧ Only b w w' := by
  exact num_src b q 18446744073709551615 w ⟨by omega, by omega⟩ h
theorem BT.only {B b p : Nat} {l : List UInt8} {w w' : World} (h : BT B b l w) (ho : Only p w w') {c : Array Value} {t : TypeId} {fr : Nat × Nat} (hp : w.heap[p]? = some (.cells c t fr)) (ht : t ≠ 5) (hb : p ≠ b) : BT B b l w' := by
  have key : ∀ pv, Lib.BuilderAt 175 5 B b pv (bCells l) w → Lib.BuilderAt 175 5 B b pv (bCells l) w' := by
    rintro pv ⟨h1, v, h2, h3, h4⟩
    refine ⟨h1, v, (ho.block b (lt_heap h2) (fun e => hb e.symm)).trans h2, ?_, h4⟩
    refine h3.kept ho.grownBy ?_
    cases hv : v.ownBlock with
    | none => exact .inl rfl
    | some k =>
      right
      intro he
      cases he
      obtain ⟨cur, hc⟩ := own_typeI h3 hv
      rw [hp] at hc
      cases hc
      exact ht rfl
  rcases h with h | h
  · exact .inl (key _ h)
  · exact .inr (key _ h)
/-- a source and a builder, apart from each other -/
structure UnpAt (B b p : Nat) (q : RS) (o : List UInt8) (w : World) : Prop where
  src : Src w p q
  bt : BT B b o w
  pb : p ≠ b
  Bp : B ≤ p
  size : B ≤ w.heap.size
theorem UnpAt.only {B b p : Nat} {q q' : RS} {o : List UInt8} {w w' : World} (h : UnpAt B b p q o w) (hs : Src w' p q') (ho : Only p w w') : UnpAt B b p q' o w' :=
  ⟨hs, h.bt.only ho h.src (by decide) h.pb, h.pb, h.Bp, Nat.le_trans h.size ho.size⟩
theorem UnpAt.kept {B b p : Nat} {q : RS} {o o' : List UInt8} {w w' : World} (h : UnpAt B b p q o w) (ht : BT B b o' w') (hk : BKept B b w w') : UnpAt B b p q o' w' :=
  ⟨hk.keep _ _ _ _ h.src (by decide) h.pb, ht, h.pb, h.Bp, Nat.le_trans h.size hk.below.size⟩
theorem UnpAt.grow {B b p : Nat} {q : RS} {o : List UInt8} {w w' : World} (h : UnpAt B b p q o w) (hb : Below w.heap.size w w') : UnpAt B b p q o w' :=
  h.kept (h.bt.below hb) (BKept.of_below hb h.size)
theorem takeB_size (r : RS) (n : Int) : (⟨(r.takeB n).toArray⟩ : ByteArray).data.toList = r.takeB n := rfl
theorem rep_any (l : List UInt8) (n : Nat) (w : World) (hl : l.length ≤ 1) (hn : n ≤ 65536) : Calls Try.prog 105 #[.string ⟨l.toArray⟩, .int .i64 n] w fun e w' => e = .returned (.string ⟨(repL l n).toArray⟩) ∧ Below w.heap.size w w' := by
  have hsz : (⟨l.toArray⟩ : ByteArray).size = l.length := by simp [ByteArray.size]
  have hm : l.length * n ≤ 1 * n := Nat.mul_le_mul_right n hl
  exact Try.strings_Repeat ⟨l.toArray⟩ n w (by omega) (by rw [hsz]; omega)
theorem ret_two {s t : ByteArray} {a b : Int} (h : s = t) (h2 : a = b) : Ending.returned (.tuple #[.string s, .int .i64 a]) = .returned (.tuple #[.string t, .int .i64 b]) := by rw [h, h2]
set_option maxHeartbeats 6400000 in
set_option maxRecDepth 100000 in
theorem iunpack (l : List UInt8) (w : World) :
    Calls Try.prog 65 #[.string ⟨l.toArray⟩] w fun e w' => e = .returned (.tuple #[.string ⟨(unpV l).toArray⟩, .int .i64 (unpE l)]) ∧ Below w.heap.size w w' := by
  obtain ⟨RQ, RO, hR⟩ : ∃ RQ RO, unp ⟨l, 0⟩ [] = (RQ, RO) := ⟨_, _, rfl⟩
  obtain ⟨F, hF⟩ : ∃ F, unpV l = F := ⟨_, rfl⟩
  have hE : unpE l = RQ.e := by unfold unpE; rw [hR]
  have hF0 : RQ.e = 0 → F = RO := by
    intro h
    rw [← hF, unpV, hR]
    simp [h]
  have hF1 : RQ.e ≠ 0 → F = [] := by
    intro h
    rw [← hF, unpV, hR]
    simp [h]
  rw [hF, hE]
  have HR := Lib.hid hR
  have HF0 := Lib.hid hF0
  have HF1 := Lib.hid hF1
  clear hR hF hE hF0 hF1
  have cf := from_any ⟨l.toArray⟩ w
  go_enter Try.func65, Try.ntmps65
  go_wp2_with fail
  refine Calls.mono cf ?_
  rintro e w1 ⟨rfl, rfl⟩
  have hu : UnpAt w.heap.size (w.heap.size + 1) w.heap.size ⟨l, 0⟩ [] ((w.alloc (.cells #[.string ⟨l.toArray⟩, .int .i64 0] 134)).alloc (.cells #[.pointer none, .slice none 0 0] 175)) := by
    have e1 : (w.alloc (.cells #[.string ⟨l.toArray⟩, .int .i64 0] 134)).heap.size = w.heap.size + 1 := by simp
    have hb := bfreshB w.heap.size (w.alloc (.cells #[.string ⟨l.toArray⟩, .int .i64 0] 134)) (by omega)
    rw [e1] at hb
    refine ⟨?_, hb, by omega, Nat.le_refl _, by simp; omega⟩
    unfold Src
    rw [Below.heap_alloc _ _ _ (by simp)]
    exact heap_alloc_self w _
  have hbel : Below w.heap.size w ((w.alloc (.cells #[.string ⟨l.toArray⟩, .int .i64 0] 134)).alloc (.cells #[.pointer none, .slice none 0 0] 175)) :=
    ((Below.refl _ _).alloc (Nat.le_refl _) _).alloc (by simp) _
  have HU := Lib.hid hu
  have HB0 := Lib.hid hbel
  clear hu hbel
  go_wp2_with fail
  generalize (w.alloc (.cells #[.string ⟨l.toArray⟩, .int .i64 0] 134)).alloc (.cells #[.pointer none, .slice none 0 0] 175) = W at *
  obtain ⟨n, hn⟩ : ∃ n, w.heap.size = n := ⟨_, rfl⟩
  rw [hn] at HU HB0
  rw [hn]
  have HNN := Lib.hid hn
  clear hn cf
  go_loopw [6] (fun hv wr => ∃ (q : RS) (o : List UInt8), UnpAt n (n + 1) n q o wr ∧ Below n w wr ∧ unp q o = (RQ, RO) ∧ o.length ≤ 65536) (fun _ wr => strLen ((wr.cell? ⟨n, 0, none⟩).getD undef))
  case atStart => exact ⟨⟨l, 0⟩, [], HU.out, HB0.out, HR.out, by simp⟩
  case round =>
    obtain ⟨q, o, hp, hb, heq, hol⟩ := hrel
    have HP := Lib.hid hp
    have HB := Lib.hid hb
    have HE := Lib.hid heq
    have cl := left_some n q.s wr hp.src.c0
    have c0r := hp.src.c0
    have HC0 := Lib.hid c0r
    clear hp hb heq c0r
    by_cases hq : q.s = []
    · have hf := HE.out
      rw [unp_nil q o hq] at hf
      obtain ⟨rfl, rfl⟩ : q = RQ ∧ o = RO := by cases hf; exact ⟨rfl, rfl⟩
      rw [hq] at cl
      clear hq hf
      go_wp2_with fail
      refine Calls.mono cl ?_
      rintro e w2 ⟨rfl, rfl⟩
      by_cases hz : q.e = 0
      · have hf := HF0.out hz
        have c1 : wr.cell? ⟨n, 1, none⟩ = some (.int .i64 0) := by rw [HP.out.src.c1, hz]
        have HZ := Lib.hid hz
        have HFF := Lib.hid hf
        clear hz hf
        go_wp2_with fail
        refine Calls.mono (err_some n 0 wr c1) ?_
        rintro e w8 ⟨rfl, rfl⟩
        go_wp2_with fail
        refine Calls.mono (bstring n (n + 1) o wr HP.out.bt HP.out.size) ?_
        rintro e w9 ⟨rfl, hb9⟩
        have HB9 := Lib.hid (HB.out.trans hb9)
        clear hb9
        go_wp2_with fail
        go_ret2
        exact ⟨ret_two (by rw [HFF.out]) HZ.out.symm, by rw [HNN.out]; exact HB9.out⟩
      · have hf := HF1.out hz
        have c1 := HP.out.src.c1
        have HFF := Lib.hid hf
        have t1 : (q.e != 0) = true := by simpa using hz
        have t2 : (q.e == 0) = false := by simpa using hz
        clear hz hf
        go_wp2_with fail
        refine Calls.mono (err_some n q.e wr c1) ?_
        rintro e w8 ⟨rfl, rfl⟩
        go_wp2_with fail
        refine Calls.mono (err_some n q.e wr c1) ?_
        rintro e w8 ⟨rfl, rfl⟩
        go_wp2_with fail
        go_ret2
        exact ⟨ret_two (by rw [HFF.out]) rfl, by rw [HNN.out]; exact HB.out⟩
    · have hst := HE.out
      rw [unp_stepN q o hq] at hst
      have hsh := nS_short q hq
      have hl0 : (0 : Int) < (q.s.length : Int) := by have := List.length_pos_iff.2 hq; omega
      have HST := Lib.hid hst
      have HSH := Lib.hid hsh
      have cn := fun w h => num_max n q w h
      have hV := nV_le q
      obtain ⟨V, hVe⟩ : ∃ V, q.nV = V := ⟨_, rfl⟩
      obtain ⟨q1, hq1⟩ : ∃ q1, q.nS = q1 := ⟨_, rfl⟩
      rw [hVe, hq1] at HST
      rw [hq1] at HSH
      simp only [hVe, hq1] at cn
      rw [hVe] at hV
      have hV2 : V / 2 < 9223372036854775808 := by omega
      have HV := Lib.hid hV
      clear hst hsh hV hVe hq1
      go_wp2_with fail
      refine Calls.mono cl ?_
      rintro e w2 ⟨rfl, rfl⟩
      go_wp2_with fail
      refine Calls.mono (cn _ HP.out.src) ?_
      rintro e w2 ⟨rfl, hs2, ho2⟩
      have HP2 := Lib.hid (HP.out.only hs2 ho2)
      have HB2 := Lib.hid (HB.out.trans (ho2.below (Nat.le_refl n) HP.out.size))
      have c1 := hs2.c1
      clear hs2 ho2 cl cn
      by_cases h1 : q1.e = 0
      · have c1z : w2.cell? ⟨n, 1, none⟩ = some (.int .i64 0) := by rw [c1, h1]
        have hst := HST.out
        rw [if_neg (by simpa using h1)] at hst
        have hs1 := HSH.out h1
        have HS1 := Lib.hid hs1
        have H1 := Lib.hid h1
        have hvm : ((V / 2 : Nat) : Int) = (V : Int) / 2 := by omega
        have hv0 : (0 : Int) ≤ (V : Int) := by omega
        clear hs1 c1 h1
        by_cases hV0 : V / 2 = 0
        · have hf := hst
          rw [if_pos (.inl hV0)] at hf
          obtain ⟨Q, hQ⟩ : ∃ Q, q1.fail 3 = Q := ⟨_, rfl⟩
          have cw := wrong_src n q1 3 w2 HP2.out.src
          rw [hQ] at cw hf
          obtain ⟨rfl, rfl⟩ : Q = RQ ∧ o = RO := by cases hf; exact ⟨rfl, rfl⟩
          have hvi : (V : Int) / 2 = 0 := by omega
          clear hst hf hQ hvm hV0
          go_wp2_with fail
          refine Calls.mono (err_some n 0 w2 c1z) ?_
          rintro e w8 ⟨rfl, rfl⟩
          go_wp2_with fail
          refine Calls.mono cw ?_
          rintro e w3 ⟨rfl, hs3, ho3⟩
          have HP3 := Lib.hid (HP2.out.only hs3 ho3)
          have HB3 := Lib.hid (HB2.out.trans (ho3.below (Nat.le_refl n) HP2.out.size))
          clear hs3 ho3 cw c1z hvi
          by_cases hz : Q.e = 0
          · have hf := HF0.out hz
            have c1 : w3.cell? ⟨n, 1, none⟩ = some (.int .i64 0) := by rw [HP3.out.src.c1, hz]
            have HZ := Lib.hid hz
            have HFF := Lib.hid hf
            clear hz hf
            go_wp2_with fail
            refine Calls.mono (err_some n 0 w3 c1) ?_
            rintro e w8 ⟨rfl, rfl⟩
            go_wp2_with fail
            refine Calls.mono (bstring n (n + 1) o w3 HP3.out.bt HP3.out.size) ?_
            rintro e w9 ⟨rfl, hb9⟩
            have HB9 := Lib.hid (HB3.out.trans hb9)
            clear hb9
            go_wp2_with fail
            go_ret2
            exact ⟨ret_two (by rw [HFF.out]) HZ.out.symm, by rw [HNN.out]; exact HB9.out⟩
          · have hf := HF1.out hz
            have c1 := HP3.out.src.c1
            have HFF := Lib.hid hf
            have t1 : (Q.e != 0) = true := by simpa using hz
            have t2 : (Q.e == 0) = false := by simpa using hz
            clear hz hf
            go_wp2_with fail
            refine Calls.mono (err_some n Q.e w3 c1) ?_
            rintro e w8 ⟨rfl, rfl⟩
            go_wp2_with fail
            refine Calls.mono (err_some n Q.e w3 c1) ?_
            rintro e w8 ⟨rfl, rfl⟩
            go_wp2_with fail
            go_ret2
            exact ⟨ret_two (by rw [HFF.out]) rfl, by rw [HNN.out]; exact HB3.out⟩
        · have hv1 : ((V : Int) / 2 == 0) = false := by
            simp only [beq_eq_false_iff_ne, ne_eq]
            omega
          have hvp : (0 : Int) < (V : Int) / 2 := by omega
          have cb := blenK n (n + 1) o w2 HP2.out.bt
          have hol2 : (o.length : Int) ≤ 65536 := by omega
          have hol3 : (0 : Int) ≤ 65536 - (o.length : Int) := by omega
          by_cases hbig : 65536 - o.length < V / 2
          · have hf := hst
            rw [if_pos (.inr hbig)] at hf
            obtain ⟨Q, hQ⟩ : ∃ Q, q1.fail 3 = Q := ⟨_, rfl⟩
            have cw := wrong_src n q1 3 w2 HP2.out.src
            rw [hQ] at cw hf
            obtain ⟨rfl, rfl⟩ : Q = RQ ∧ o = RO := by cases hf; exact ⟨rfl, rfl⟩
            have hbi : (65536 : Int) - (o.length : Int) < (V : Int) / 2 := by omega
            clear hst hf hQ hvm hV0 hbig
            go_wp2_with fail
            refine Calls.mono (err_some n 0 w2 c1z) ?_
            rintro e w8 ⟨rfl, rfl⟩
            go_wp2_with fail
            refine Calls.mono cb ?_
            rintro e w8 ⟨rfl, rfl⟩
            go_wp2_with fail
            refine Calls.mono cw ?_
            rintro e w3 ⟨rfl, hs3, ho3⟩
            have HP3 := Lib.hid (HP2.out.only hs3 ho3)
            have HB3 := Lib.hid (HB2.out.trans (ho3.below (Nat.le_refl n) HP2.out.size))
            clear hs3 ho3 cw c1z cb
            by_cases hz : Q.e = 0
            · have hf := HF0.out hz
              have c1 : w3.cell? ⟨n, 1, none⟩ = some (.int .i64 0) := by rw [HP3.out.src.c1, hz]
              have HZ := Lib.hid hz
              have HFF := Lib.hid hf
              clear hz hf
              go_wp2_with fail
              refine Calls.mono (err_some n 0 w3 c1) ?_
              rintro e w8 ⟨rfl, rfl⟩
              go_wp2_with fail
              refine Calls.mono (bstring n (n + 1) o w3 HP3.out.bt HP3.out.size) ?_
              rintro e w9 ⟨rfl, hb9⟩
              have HB9 := Lib.hid (HB3.out.trans hb9)
              clear hb9
              go_wp2_with fail
              go_ret2
              exact ⟨ret_two (by rw [HFF.out]) HZ.out.symm, by rw [HNN.out]; exact HB9.out⟩
            · have hf := HF1.out hz
              have c1 := HP3.out.src.c1
              have HFF := Lib.hid hf
              have t1 : (Q.e != 0) = true := by simpa using hz
              have t2 : (Q.e == 0) = false := by simpa using hz
              clear hz hf
              go_wp2_with fail
              refine Calls.mono (err_some n Q.e w3 c1) ?_
              rintro e w8 ⟨rfl, rfl⟩
              go_wp2_with fail
              refine Calls.mono (err_some n Q.e w3 c1) ?_
              rintro e w8 ⟨rfl, rfl⟩
              go_wp2_with fail
              go_ret2
              exact ⟨ret_two (by rw [HFF.out]) rfl, by rw [HNN.out]; exact HB3.out⟩
          · rw [if_neg (by omega)] at hst
            obtain ⟨M, hM⟩ : ∃ M, V / 2 = M := ⟨_, rfl⟩
            rw [hM] at hst hbig hvm
            have hMl : M ≤ 65536 := by omega
            have hbi : ¬ (65536 : Int) - (o.length : Int) < (M : Int) := by omega
            have hMi : (M : Int) ≤ 65536 := by omega
            have hvm' := hvm.symm
            rw [hvm'] at hv1 hvp
            have hmod : (V : Int) % 2 = ((V % 2 : Nat) : Int) := by omega
            by_cases he : V % 2 = 0
            · rw [if_pos he] at hst
              have ct := take_src n q1 (M : Int) w2 HP2.out.src
              have htl := takeB_le q1 M
              have hts := takeS_le q1 (M : Int)
              obtain ⟨Q, hQ⟩ : ∃ Q, q1.takeS (M : Int) = Q := ⟨_, rfl⟩
              obtain ⟨T, hT⟩ : ∃ T, q1.takeB (M : Int) = T := ⟨_, rfl⟩
              rw [hQ, hT] at ct hst
              rw [hQ] at hts
              rw [hT] at htl
              have HS := Lib.hid hst
              have HTS := Lib.hid hts
              have hev : (V : Int) % 2 = 0 := by omega
              clear hst hQ hT hvm hV0 he hM hts hbig hmod
              go_wp2_with fail
              refine Calls.mono (err_some n 0 w2 c1z) ?_
              rintro e w8 ⟨rfl, rfl⟩
              go_wp2_with fail
              refine Calls.mono cb ?_
              rintro e w8 ⟨rfl, rfl⟩
              go_wp2_with fail
              refine Calls.mono ct ?_
              rintro e w3 ⟨rfl, hs3, ho3⟩
              have HP3 := Lib.hid (HP2.out.only hs3 ho3)
              have HB3 := Lib.hid (HB2.out.trans (ho3.below (Nat.le_refl n) HP2.out.size))
              clear hs3 ho3 ct c1z cb
              go_wp2_with fail
              refine Calls.mono (bwriteK n (n + 1) o ⟨T.toArray⟩ w3 HP3.out.bt (by simp [ByteArray.size]; omega) HP3.out.size) ?_
              rintro e w4 ⟨rfl, hbt4, hk4⟩
              have HP4 := Lib.hid (HP3.out.kept hbt4 hk4)
              have HB4 := Lib.hid (HB3.out.trans hk4.below)
              clear hbt4 hk4
              go_wp2_with fail
              go_roundw
              case rel => exact ⟨Q, _, HP4.out, HB4.out, HS.out, by simp; omega⟩
              case measure =>
                rw [HP4.out.src.c0, HC0.out]
                have := HTS.out
                have := HS1.out
                simp [strLen]
                omega
            · rw [if_neg he] at hst
              have ct := take_src n q1 1 w2 HP2.out.src
              have htl := takeB_le q1 1
              have hts := takeS_le q1 1
              obtain ⟨Q, hQ⟩ : ∃ Q, q1.takeS 1 = Q := ⟨_, rfl⟩
              obtain ⟨T, hT⟩ : ∃ T, q1.takeB 1 = T := ⟨_, rfl⟩
              have hT' : q1.takeB ((1 : Nat) : Int) = T := hT
              rw [hQ, hT] at ct hst
              rw [hQ] at hts
              rw [hT'] at htl
              have HS := Lib.hid hst
              have HTS := Lib.hid hts
              have hev : ((V : Int) % 2 == 0) = false := by
                simp only [beq_eq_false_iff_ne, ne_eq]
                omega
              have hrl : (repL T M).length ≤ M := by
                rw [repL_len]
                have := Nat.mul_le_mul_left M htl
                omega
              clear hst hQ hT hT' hvm hV0 he hM hts hbig hmod
              go_wp2_with fail
              refine Calls.mono (err_some n 0 w2 c1z) ?_
              rintro e w8 ⟨rfl, rfl⟩
              go_wp2_with fail
              refine Calls.mono cb ?_
              rintro e w8 ⟨rfl, rfl⟩
              go_wp2_with fail
              refine Calls.mono ct ?_
              rintro e w3 ⟨rfl, hs3, ho3⟩
              have HP3 := Lib.hid (HP2.out.only hs3 ho3)
              have HB3 := Lib.hid (HB2.out.trans (ho3.below (Nat.le_refl n) HP2.out.size))
              clear hs3 ho3 ct c1z cb
              go_wp2_with fail
              refine Calls.mono (rep_any T M w3 htl hMl) ?_
              rintro e w5 ⟨rfl, hb5⟩
              have HP5 := Lib.hid (HP3.out.grow hb5)
              have HB5 := Lib.hid (HB3.out.trans (hb5.mono HP3.out.size))
              clear hb5
              go_wp2_with fail
              refine Calls.mono (bwriteK n (n + 1) o ⟨(repL T M).toArray⟩ w5 HP5.out.bt (by simp [ByteArray.size]; omega) HP5.out.size) ?_
              rintro e w4 ⟨rfl, hbt4, hk4⟩
              have HP4 := Lib.hid (HP5.out.kept hbt4 hk4)
              have HB4 := Lib.hid (HB5.out.trans hk4.below)
              clear hbt4 hk4
              go_wp2_with fail
              go_roundw
              case rel => exact ⟨Q, _, HP4.out, HB4.out, HS.out, by simp; omega⟩
              case measure =>
                rw [HP4.out.src.c0, HC0.out]
                have := HTS.out
                have := HS1.out
                simp [strLen]
                omega
      · have hf := HST.out
        rw [if_pos h1] at hf
        obtain ⟨rfl, rfl⟩ : q1 = RQ ∧ o = RO := by cases hf; exact ⟨rfl, rfl⟩
        have t1 : (q1.e != 0) = true := by simpa using h1
        have t2 : (q1.e == 0) = false := by simpa using h1
        have HFF := Lib.hid (HF1.out h1)
        clear h1 hf
        go_wp2_with fail
        refine Calls.mono (err_some n q1.e w2 c1) ?_
        rintro e w8 ⟨rfl, rfl⟩
        go_wp2_with fail
        refine Calls.mono (err_some n q1.e w2 c1) ?_
        rintro e w8 ⟨rfl, rfl⟩
        go_wp2_with fail
        refine Calls.mono (err_some n q1.e w2 c1) ?_
        rintro e w8 ⟨rfl, rfl⟩
        go_wp2_with fail
        go_ret2
        exact ⟨ret_two (by rw [HFF.out]) rfl, by rw [HNN.out]; exact HB2.out⟩
end Go.Proofs.Ytlhjgpedmnjbpaa
