/-
  search.from: there is an order just if one is found.
-/
import Derived.Test.YtodjlaapmbnahaaSchB
import Derived.Deep.RegionWith
namespace Go.Proofs.Ytodjlaapmbnahaa
open Go.RowKit Go.WideMaps
open Go.Maps (Keyed)
set_option linter.unusedVariables false
set_option linter.unusedSimpArgs false

theorem seen_move {w w' : World} {M m : Nat} {D : DataW Unit} (h : SeenM w M m D) (e : w'.heap[M]? = w.heap[M]?) : SeenM w' M m D := by
  obtain ⟨es, clock, hb, F, hs, hD⟩ := h
  exact ⟨es, clock, e.trans hb, F, hs, hD⟩
theorem seen_below {w w' : World} {M m : Nat} {D : DataW Unit} (h : SeenM w M m D) (hb : Below w.heap.size w w') : SeenM w' M m D := seen_move h (hb.block M h.lt)
structure PostS (l : List US) (M m k : Nat) (D : DataW Unit) (d : Nat) (v : ByteArray) (w w' : World) : Prop where
  seen : ∃ m' D', SeenM w' M m' D' ∧ m' ≤ m + 13 ^ k ∧ (¬ Ord l d v → ∀ d' v', InD D' d' v' → InD D d' v' ∨ ¬ Ord l d' v')
  only : Only M w w'
structure LP (l : List US) (w wr : World) (a : Option Addr) (n cap A M m T : Nat) (D : DataW Unit) (d : Nat) (v : ByteArray) (i : Nat) : Prop where
  only : Only M w wr
  bs : wr.heap[A]? = some (.cells #[.slice a n cap, .map (some M)] 75)
  bp : wr.heap[A + 1]? = some (.cells #[.int .u64 (d : Nat), .string v] 79)
  seen : ∃ m' D', SeenM wr M m' D' ∧ m' ≤ m + 1 + i * T ∧ ∀ d' v', InD D' d' v' → InD D d' v' ∨ (d' = d ∧ v' = v) ∨ ¬ Ord l d' v'
  none : ∀ j u, j < i → l[j]? = some u → d.testBit j = false → Fst l d u.f → (u.w = false → u.v = v) → ¬ Ord l (d ||| 2 ^ j) u.v
theorem LP.below {l : List US} {w wr w' : World} {a : Option Addr} {n cap A M m T : Nat} {D : DataW Unit} {d : Nat} {v : ByteArray} {i : Nat} (h : LP l w wr a n cap A M m T D d v i) (hb : Below wr.heap.size wr w') : LP l w w' a n cap A M m T D d v i := by
  obtain ⟨m', D', h1, h2, h3⟩ := h.seen
  exact ⟨h.only.trans (Only.of_below hb), below_at hb (lt_heap h.bs) h.bs, below_at hb (lt_heap h.bp) h.bp, ⟨m', D', seen_below h1 hb, h2, h3⟩, h.none⟩
theorem LP.skip {l : List US} {w wr : World} {a : Option Addr} {n cap A M m T : Nat} {D : DataW Unit} {d : Nat} {v : ByteArray} {i : Nat} {u : US} (h : LP l w wr a n cap A M m T D d v i) (hu : l[i]? = some u) (hno : d.testBit i = false → Fst l d u.f → (u.w = false → u.v = v) → ¬ Ord l (d ||| 2 ^ i) u.v) : LP l w wr a n cap A M m T D d v (i + 1) := by
  obtain ⟨m', D', h1, h2, h3⟩ := h.seen
  refine ⟨h.only, h.bs, h.bp, ⟨m', D', h1, by have := Nat.le_add_left (i * T) T; rw [Nat.succ_mul]; omega, h3⟩, fun j u' hj hu' hb hf hw => ?_⟩
  rcases Nat.lt_or_ge j i with q | q
  · exact h.none j u' q hu' hb hf hw
  · obtain rfl : j = i := by omega
    rw [hu] at hu'
    obtain rfl := Option.some.inj hu'
    exact hno hb hf hw
theorem LP.child {l : List US} {w wr w6 : World} {a : Option Addr} {n cap A M m T k1 m' : Nat} {D D' : DataW Unit} {d : Nat} {v : ByteArray} {i : Nat} {u : US} (h : LP l w wr a n cap A M m T D d v i) (hu : l[i]? = some u) (hm' : m' ≤ m + 1 + i * T) (hD' : ∀ d' v', InD D' d' v' → InD D d' v' ∨ (d' = d ∧ v' = v) ∨ ¬ Ord l d' v') (hp : PostS l M m' k1 D' (d ||| 2 ^ i) u.v wr.drew w6) (hT : 13 ^ k1 = T) (hno : ¬ Ord l (d ||| 2 ^ i) u.v) (hMA : M < A) : LP l w w6 a n cap A M m T D d v (i + 1) := by
  obtain ⟨m2, D2, h1, h2, h3⟩ := hp.seen
  refine ⟨h.only.drew.trans hp.only, (hp.only.block _ (lt_heap h.bs) (by omega)).trans h.bs, (hp.only.block _ (lt_heap h.bp) (by omega)).trans h.bp, ⟨m2, D2, h1, by rw [Nat.succ_mul]; rw [hT] at h2; omega, fun d' v' q => ?_⟩, fun j u' hj hu' hb hf hw => ?_⟩
  · rcases h3 hno d' v' q with r | r
    · exact hD' d' v' r
    · exact .inr (.inr r)
  · rcases Nat.lt_or_ge j i with q | q
    · exact h.none j u' q hu' hb hf hw
    · obtain rfl : j = i := by omega
      rw [hu] at hu'
      obtain rfl := Option.some.inj hu'
      exact hno
set_option maxHeartbeats 3200000 in
set_option maxRecDepth 100000 in
theorem sfrom (l : List US) (a : Option Addr) (n cap M : Nat) (hn : n ≤ 12) (hus : ∀ u ∈ l, u.v.size ≤ maxLen) (k : Nat) : ∀ (d : Nat) (v : ByteArray) (w : World) (m : Nat) (D : DataW Unit), und n d ≤ k → d < 4096 → v.size ≤ maxLen → SRO4 M w (.slice a n cap) n (uCs l) → SeenM w M m D → m + 13 ^ k ≤ 4611686018427387904 → (∀ d' v', InD D d' v' → d' < d ∨ ¬ Ord l d' v') →
    Calls Try.prog 24 #[.agg #[.slice a n cap, .map (some M)], spotV d v] w fun e w' => BR e (Ord l d v) ∧ PostS l M m k D d v w w' := by
  induction k using Nat.strongRecOn with
  | _ k ih =>
  intro d v w m D hk hd hv hsr hsn hm hin
  have hMlt := hsn.lt
  have hx0 := heap_alloc_self w (.cells #[.slice a n cap, .map (some M)] 75)
  have hb0 := (Below.refl w.heap.size w).alloc (Nat.le_refl _) (.cells #[.slice a n cap, .map (some M)] 75)
  have hx1 := heap_alloc_self (w.alloc (.cells #[.slice a n cap, .map (some M)] 75)) (.cells #[.int .u64 (d : Nat), .string v] 79)
  have hb1 := hb0.alloc hb0.size (.cells #[.int .u64 (d : Nat), .string v] 79)
  rw [show (w.alloc (.cells #[.slice a n cap, .map (some M)] 75)).heap.size = w.heap.size + 1 by simp] at hx1
  have hx0' := (Below.heap_alloc _ (.cells #[.int .u64 (d : Nat), .string v] 79) _ (lt_heap hx0)).trans hx0
  have HI := Lib.hid (And.intro hk (And.intro hm hin))
  have HV := Lib.hid hv
  have HS := Lib.hid (And.intro hsr hsn)
  have HIH := Lib.hid ih
  have HU := Lib.hid hus
  clear hx0 hb0 hk hm hin hv hsr hsn ih hus
  unfold spotV
  go_enter Try.func24, Try.ntmps24
  go_upto_region 1 with fail
  generalize (w.alloc (.cells #[.slice a n cap, .map (some M)] 75)).alloc (.cells #[.int .u64 (d : Nat), .string v] 79) = w1 at *
  obtain ⟨A, hA⟩ : ∃ A, w.heap.size = A := ⟨_, rfl⟩
  rw [hA] at hx1 hx0' hMlt
  simp only [hA]
  have c0 := cellU hx0' 0 (v := .slice a n cap) rfl
  have c1 := cellU hx0' 1 (v := .map (some M)) rfl
  have e0 := cellU hx1 0 (v := .int .u64 (d : Nat)) rfl
  have e1 := cellU hx1 1 (v := .string v) rfl
  have co := sover l a n cap M d w1 ((HS.out.1.only (Only.of_below hb1)).now) hd hn
  have H1 := Lib.hid (And.intro hx0' (And.intro hx1 hb1))
  clear hx0' hx1 hb1
  go_wp2_with fail
  refine Calls.mono co ?_
  rintro e w2 ⟨⟨b, rfl, hbo⟩, hb2⟩
  have HB2 := Lib.hid (H1.out.2.2.trans (hb2.mono H1.out.2.2.size))
  have h0 := below_at hb2 (lt_heap H1.out.1) H1.out.1
  have h1 := below_at hb2 (lt_heap H1.out.2.1) H1.out.2.1
  clear c0 c1 e0 e1 co hb2
  cases b
  case true =>
    have HO := Lib.hid hbo
    clear hbo h0 h1
    go_wp2_with fail
    go_ret
    exact ⟨BR.t (.over (by first | exact HO.out.1 rfl | exact HO.out.1 trivial | exact HO.out)), ⟨⟨m, D, seen_below HS.out.2 HB2.out, Nat.le_add_right _ _, fun _ d' v' h => .inl h⟩, Only.of_below HB2.out⟩⟩
  case false =>
    have HNO := Lib.hid (show ¬ Over l d by simpa using hbo)
    clear hbo
    have c0 := cellU h0 0 (v := .slice a n cap) rfl
    have c1 := cellU h0 1 (v := .map (some M)) rfl
    have e0 := cellU h1 0 (v := .int .u64 (d : Nat)) rfl
    have e1 := cellU h1 1 (v := .string v) rfl
    have hsn2 := seen_below HS.out.2 HB2.out
    obtain ⟨b2, hlook, hiff⟩ := seen_look hsn2 hd HV.out
    unfold spotV at hlook
    have hb3 := (Below.refl w2.heap.size w2).alloc (Nat.le_refl _) (.cells #[] 99)
    have H2 := Lib.hid (And.intro h0 (And.intro h1 (And.intro hsn2 hb3)))
    have HIF := Lib.hid hiff
    clear h0 h1 hsn2 hb3 hiff
    go_upto_region 4 with fail
    generalize w2.alloc (.cells #[] 99) = w3 at *
    clear c0 c1 e0 e1 hlook
    cases b2
    case true =>
      go_wp2_with fail
      go_ret
      have hin : InD D d v := by first | exact HIF.out.1 rfl | exact HIF.out.1 trivial | exact HIF.out
      have hno : ¬ Ord l d v := by
        rcases HI.out.2.2 d v hin with q | q
        · omega
        · exact q
      exact ⟨BR.f hno, ⟨⟨m, D, seen_below H2.out.2.2.1 H2.out.2.2.2, Nat.le_add_right _ _, fun _ d' v' h => .inl h⟩, (Only.of_below HB2.out).trans (Only.of_below H2.out.2.2.2)⟩⟩
    case false =>
      clear HIF
      have h0 := below_at H2.out.2.2.2 (lt_heap H2.out.1) H2.out.1
      have h1 := below_at H2.out.2.2.2 (lt_heap H2.out.2.1) H2.out.2.1
      have hsn3 := seen_below H2.out.2.2.1 H2.out.2.2.2
      have hk1 : 0 < k := by
        rcases Nat.eq_zero_or_pos k with q | q
        · exfalso
          refine HNO.out fun i u hu hb => ?_
          have hl := sr_len4 HS.out.1.now
          have := (List.getElem?_eq_some_iff.1 hu).1
          have h2 := und_less (i := i) (n := n) (by omega) hb
          have h3 := HI.out.1
          omega
        · exact q
      obtain ⟨k1, hk2⟩ : ∃ k1, k = k1 + 1 := ⟨k - 1, by omega⟩
      obtain ⟨T, hT⟩ : ∃ T, 13 ^ k1 = T := ⟨_, rfl⟩
      have hT1 : 1 ≤ T := by rw [← hT]; exact Nat.pow_pos (by decide)
      have hkT : 13 ^ k = 13 * T := by rw [hk2, Nat.pow_succ, hT, Nat.mul_comm]
      have hmT : m + 13 * T ≤ 4611686018427387904 := by rw [← hkT]; exact HI.out.2.1
      obtain ⟨w4, D4, hst, hsn4, ho4, hin4⟩ := seen_store hsn3 hd HV.out (show m < maxLen by unfold maxLen; omega)
      unfold spotV at hst
      have g0 := (ho4.block _ (lt_heap h0) (by omega)).trans h0
      have g1 := (ho4.block _ (lt_heap h1) (by omega)).trans h1
      have HLP := Lib.hid (show LP l w w4 a n cap A M m T D d v 0 from ⟨((Only.of_below HB2.out).trans (Only.of_below H2.out.2.2.2)).trans ho4, g0, g1, ⟨m + 1, D4, hsn4, by omega, fun d' v' h => (hin4 d' v' h).elim .inl (fun q => .inr (.inl q))⟩, fun j u hj => by omega⟩)
      have c0 := cellU h0 0 (v := .slice a n cap) rfl
      have c1 := cellU h0 1 (v := .map (some M)) rfl
      have e0 := cellU h1 0 (v := .int .u64 (d : Nat)) rfl
      have e1 := cellU h1 1 (v := .string v) rfl
      have c00 := cellU g0 0 (v := .slice a n cap) rfl
      have HK := Lib.hid (And.intro hk2 (And.intro hT (And.intro hkT (And.intro hT1 hmT))))
      clear h0 h1 hsn3 hsn4 ho4 hin4 g0 g1 hk2 hT hkT hT1 hmT
      go_wp2_with fail
      go_loopw [28] (fun iv wr => ∃ i : Nat, i ≤ n ∧ iv = .int .i64 i ∧ Hid (LP l w wr a n cap A M m T D d v i)) (fun iv _ => n - (intOf iv).toNat)
      case atStart => exact ⟨0, Nat.zero_le _, rfl, HLP⟩
      case round =>
        obtain ⟨i, hi, rfl, HL⟩ := hrel
        clear c0 c1 e0 e1 c00 hst HLP
        by_cases hin : i < n
        · obtain ⟨b, off, u, rfl, hu, k0, k1', k2, k3⟩ := use_at (HS.out.1.only HL.out.only).now i hin
          obtain ⟨K, hK, hbit⟩ := bit_of d i hd
          have HUL := Lib.hid (And.intro hu (HU.out u (List.mem_of_getElem? hu)))
          obtain ⟨uw, uv, uf, ut⟩ := u
          simp only at k0 k1' k2 k3
          have hx := heap_alloc_self wr (.cells #[.bool uw, .string uv, .int .i64 uf, .int .i64 ut] 72)
          have hb := (Below.refl wr.heap.size wr).alloc (Nat.le_refl _) (.cells #[.bool uw, .string uv, .int .i64 uf, .int .i64 ut] 72)
          have HL2 := Lib.hid (HL.out.below hb)
          have hi12 : i < 12 := by omega
          clear hu hb
          go_upto_region 10 with fail
          generalize wr.alloc (.cells #[.bool uw, .string uv, .int .i64 uf, .int .i64 ut] 72) = W1 at *
          obtain ⟨Q, hQ⟩ : ∃ Q, wr.heap.size = Q := ⟨_, rfl⟩
          rw [hQ] at hx
          simp only [hQ]
          clear hQ k0 k1' k2 k3
          have c0 := cellU HL2.out.bs 0 (v := .slice (some ⟨b, off, none⟩) n cap) rfl
          have c1 := cellU HL2.out.bs 1 (v := .map (some M)) rfl
          have e0 := cellU HL2.out.bp 0 (v := .int .u64 (d : Nat)) rfl
          have e1 := cellU HL2.out.bp 1 (v := .string v) rfl
          have u0 := cellU hx 0 (v := .bool uw) rfl
          have u1 := cellU hx 1 (v := .string uv) rfl
          have u2 := cellU hx 2 (v := .int .i64 uf) rfl
          have u3 := cellU hx 3 (v := .int .i64 ut) rfl
          cases hbb : d.testBit i
          case true =>
            rw [hbb] at hbit
            simp only [if_true] at hbit
            have HSK := Lib.hid (HL2.out.skip HUL.out.1 (fun q => by rw [hbb] at q; cases q))
            clear hbb
            go_wp2_with fail
            go_roundw
            case rel => exact ⟨i + 1, by omega, by go_num, HSK⟩
            case measure => simp [intOf]; omega
          case false =>
            rw [hbb] at hbit
            simp only [Bool.false_eq_true, if_false] at hbit
            have HBB := Lib.hid hbb
            have cf1 := sfirst40 l _ n cap M d ⟨uw, uv, uf, ut⟩ W1 (HS.out.1.only HL2.out.only).now hd hn
            simp only at cf1
            clear hbb
            go_wp2_with fail
            refine Calls.mono cf1 ?_
            rintro e w5 ⟨⟨b4, rfl, hb4⟩, hb5⟩
            have HL3 := Lib.hid (HL2.out.below hb5)
            have hx5 := below_at hb5 (lt_heap hx) hx
            clear c0 c1 e0 e1 u0 u1 u2 u3 cf1 hb5 hx
            have c0 := cellU HL3.out.bs 0 (v := .slice (some ⟨b, off, none⟩) n cap) rfl
            have c1 := cellU HL3.out.bs 1 (v := .map (some M)) rfl
            have e0 := cellU HL3.out.bp 0 (v := .int .u64 (d : Nat)) rfl
            have e1 := cellU HL3.out.bp 1 (v := .string v) rfl
            have u0 := cellU hx5 0 (v := .bool uw) rfl
            have u1 := cellU hx5 1 (v := .string uv) rfl
            cases b4
            case false =>
              have hnf : ¬ Fst l d uf := by simpa using hb4
              have HSK := Lib.hid (HL3.out.skip HUL.out.1 (fun _ q => absurd q hnf))
              clear hb4 hnf
              go_wp2_with fail
              go_roundw
              case rel => exact ⟨i + 1, by omega, by go_num, HSK⟩
              case measure => simp [intOf]; omega
            case true =>
              have HFS := Lib.hid (show Fst l d uf by simpa using hb4)
              clear hb4
              obtain ⟨m', D', hs5, hm5, hD5⟩ := HL3.out.seen
              have hund := und_less (n := n) hin HBB.out
              have hi1 : i * T + T ≤ 12 * T := by
                have := Nat.mul_le_mul_right T (show i + 1 ≤ 12 by omega)
                rw [Nat.succ_mul] at this
                exact this
              have cf := HIH.out k1 (by have := HK.out.1; omega) (d ||| 2 ^ i) uv w5.drew m' D' (by have := HI.out.1; have := HK.out.1; omega) (or_lt hd hi12) HUL.out.2 (HS.out.1.only HL3.out.only.drew) hs5.drew (by rw [HK.out.2.1]; have := HK.out.2.2.2.2; have := HK.out.2.2.2.1; omega) (fun d' v' h => by
                have hgt := or_gt HBB.out
                rcases hD5 d' v' h with q | q | q
                · rcases HI.out.2.2 d' v' q with r | r
                  · exact .inl (by omega)
                  · exact .inr r
                · exact .inl (by rw [q.1]; exact hgt)
                · exact .inr q)
              have hor := or_u64 hd hi12
              have hsh := shl_one hi12
              obtain ⟨P2, hP2⟩ : ∃ P : Nat, 2 ^ i = P := ⟨_, rfl⟩
              obtain ⟨E, hE⟩ : ∃ E, d ||| 2 ^ i = E := ⟨_, rfl⟩
              rw [hE] at hor
              rw [hP2] at hor hsh
              simp only [hE] at cf
              unfold spotV at cf
              have HC := Lib.hid (And.intro hm5 (And.intro hD5 hE))
              clear hs5 hm5 hD5 hund hi1 hP2 hE
              have hgo : uw = true ∨ (uw = false ∧ uv = v) ∨ (uw = false ∧ uv ≠ v) := by
                cases uw
                · by_cases q : uv = v
                  · exact .inr (.inl ⟨rfl, q⟩)
                  · exact .inr (.inr ⟨rfl, q⟩)
                · exact .inl rfl
              rcases hgo with rfl | ⟨rfl, rfl⟩ | ⟨rfl, hne⟩
              rotate_left 2
              · have HSK := Lib.hid (HL3.out.skip HUL.out.1 (fun _ _ q => absurd (q rfl) hne))
                have hne2 : (uv.toList == v.toList) = false := by
                  rw [beq_eq_false_iff_ne, ByteArray.toList_eq, ByteArray.toList_eq]
                  exact fun q => hne (str_ext q)
                clear cf hor hsh
                go_wp2_with fail
                go_roundw
                case rel => exact ⟨i + 1, by omega, by go_num, HSK⟩
                case measure => simp [intOf]; omega
              all_goals
                go_upto_region 11 with fail
                go_region_with (go_at_call 24; refine Calls.mono cf ?_; rintro e w6 ⟨⟨b6, rfl, hb6⟩, hp6⟩)
                all_goals
                  have HP6 := Lib.hid hp6
                  have hbd : ∀ m2, m2 ≤ m' + 13 ^ k1 → m2 ≤ m + 13 ^ k := fun m2 q => by
                    have h1 := HC.out.1
                    have h2 := HK.out.2.1
                    have h3 := HK.out.2.2.1
                    have h4 := HK.out.2.2.2.1
                    have h5 := Nat.mul_le_mul_right T (show i + 1 ≤ 12 by omega)
                    rw [Nat.succ_mul] at h5
                    omega
                  have HBD := Lib.hid hbd
                  clear hp6 hbd cf hor hsh
                  cases b6
                  case true =>
                    have hord : Ord l E uv := by first | exact hb6.1 rfl | exact hb6.1 trivial | exact hb6
                    rw [← HC.out.2.2] at hord
                    first | have HO := Lib.hid (show Ord l d v from Ord.step HUL.out.1 HBB.out HFS.out (by intro q; first | (cases q; done) | rfl) hord) | have HO := Lib.hid (show Ord l d uv from Ord.step HUL.out.1 HBB.out HFS.out (by intro q; first | (cases q; done) | rfl) hord)
                    clear hord hb6
                    go_wp2_with fail
                    go_ret
                    refine ⟨BR.t HO.out, ⟨?_, HL3.out.only.drew.trans HP6.out.only⟩⟩
                    obtain ⟨m2, D2, h1, h2, h3⟩ := HP6.out.seen
                    exact ⟨m2, D2, h1, HBD.out _ h2, fun q => absurd HO.out q⟩
                  case false =>
                    have hno : ¬ Ord l E uv := by simpa using hb6
                    rw [← HC.out.2.2] at hno
                    have hp := HP6.out
                    rw [← HC.out.2.2] at hp
                    have HCH := Lib.hid (HL3.out.child HUL.out.1 HC.out.1 HC.out.2.1 hp HK.out.2.1 hno hMlt)
                    clear hno hb6 hp
                    go_wp2_with fail
                    go_roundw
                    case rel => exact ⟨i + 1, by omega, by go_num, HCH⟩
                    case measure => simp [intOf]; omega
        · obtain rfl : i = n := by omega
          have hno : ¬ Ord l d v := ord_not HNO.out (fun j u hu => HL.out.none j u (by have := sr_len4 HS.out.1.now; have := (List.getElem?_eq_some_iff.1 hu).1; omega) hu)
          have HF := Lib.hid (show PostS l M m k D d v w wr from ⟨by
            obtain ⟨m', D', h1, h2, h3⟩ := HL.out.seen
            refine ⟨m', D', h1, ?_, fun _ d' v' h => ?_⟩
            · have h4 : i * T ≤ 12 * T := Nat.mul_le_mul_right T hn
              have h5 := HK.out.2.2.1
              have h6 := HK.out.2.2.2.1
              omega
            · rcases h3 d' v' h with q | q | q
              · exact .inl q
              · exact .inr (by rw [q.1, q.2]; exact hno)
              · exact .inr q, HL.out.only⟩)
          have HNO2 := Lib.hid hno
          clear hno
          go_wp2_with fail
          go_ret
          exact ⟨BR.f HNO2.out, HF.out⟩
end Go.Proofs.Ytodjlaapmbnahaa
