/-
  The elder search of layer 40 (tarnref40.Order).
-/
import Derived.Test.YtbmjkieikaapfaaSchF
namespace Go.Proofs.Ytbmjkieikaapfaa
open Go.RowKit Go.WideMaps
set_option linter.unusedVariables false
set_option linter.unusedSimpArgs false

theorem bit_i (d i : Nat) (hd : d < 4096) : ∃ K : Nat, ((d : Int) / 2 ^ i = (K : Int)) ∧ Int.tmod (K : Int) 2 = if d.testBit i then 1 else 0 := by
  refine ⟨d / 2 ^ i, by simp, ?_⟩
  have h := Nat.toNat_testBit d i
  generalize d / 2 ^ i = K at *
  rw [Int.tmod_eq_emod_of_nonneg (Int.natCast_nonneg K), show ((K : Int) % 2) = ((K % 2 : Nat) : Int) by simp, ← h]
  cases d.testBit i <;> rfl
theorem shl_onei {i : Nat} (hi : i < 12) : IntKind.i64.wrap ((2 : Int) ^ i) = ((2 ^ i : Nat) : Int) := by
  have h := pow_small hi
  have e : (2 : Int) ^ i = ((2 ^ i : Nat) : Int) := by simp
  rw [e, IntKind.wrap_i64]
  generalize 2 ^ i = P at *
  omega
theorem or_i64 {d i : Nat} (hd : d < 4096) (hi : i < 12) : bits .or .i64 (d : Int) ((2 ^ i : Nat) : Int) = ((d ||| 2 ^ i : Nat) : Int) := by
  have h := pow_small hi
  have hl := or_lt hd hi
  show IntKind.i64.wrap ((BitVec.ofInt 64 (d : Int) ||| BitVec.ofInt 64 ((2 ^ i : Nat) : Int)).toNat : Nat) = _
  generalize 2 ^ i = P at *
  rw [BitVec.toNat_or]
  rw [show (BitVec.ofInt 64 (d : Int)).toNat = d by rw [BitVec.toNat_ofInt]; omega, show (BitVec.ofInt 64 (P : Int)).toNat = P by rw [BitVec.toNat_ofInt]; omega, IntKind.wrap_i64]
  omega
/-- whether something is left, so far -/
def LeftTo (l : List US) (d i : Nat) (b : Bool) : Prop := b = false ↔ OvTo l d i
theorem LeftTo.keep {l : List US} {d i : Nat} {u : US} {b : Bool} (h : LeftTo l d i b) (hu : l[i]? = some u) (hor : d.testBit i = true ∨ ¬ u.t < 1073741824) : LeftTo l d (i + 1) b :=
  ⟨fun e => (h.1 e).next hu hor, fun e => h.2 fun j x hj hx hb => e j x (by omega) hx hb⟩
theorem LeftTo.more {l : List US} {d i : Nat} {u : US} {b : Bool} (h : LeftTo l d i b) (hu : l[i]? = some u) (hb : d.testBit i = false) (ht : u.t < 1073741824) : LeftTo l d (i + 1) true :=
  ⟨fun e => (by cases e), fun e => absurd ht (e i u (by omega) hu hb)⟩
theorem LeftTo.stays {l : List US} {d i : Nat} (h : LeftTo l d i true) : LeftTo l d (i + 1) true :=
  ⟨fun e => (by cases e), fun e => h.2 fun j x hj hx hb => e j x (by omega) hx hb⟩
/-- none is found, so far -/
def NoTo (l : List US) (d : Nat) (v : ByteArray) (i : Nat) : Prop := ∀ j u, j < i → l[j]? = some u → d.testBit j = false → Fst l d u.f → (u.w = false → u.v = v) → ¬ Ord l (d ||| 2 ^ j) u.v
theorem NoTo.next {l : List US} {d i : Nat} {v : ByteArray} {u : US} (h : NoTo l d v i) (hu : l[i]? = some u) (hno : d.testBit i = false → Fst l d u.f → (u.w = false → u.v = v) → ¬ Ord l (d ||| 2 ^ i) u.v) : NoTo l d v (i + 1) := fun j x hj hx hb hf hw => by
  rcases Nat.lt_or_ge j i with q | q
  · exact h j x q hx hb hf hw
  · obtain rfl : j = i := by omega
    rw [hu] at hx
    obtain rfl := Option.some.inj hx
    exact hno hb hf hw
/-- whether one may be next, so far -/
def MayTo (l : List US) (d : Nat) (f : Int) (i k : Nat) (b : Bool) : Prop := b = true ↔ (d.testBit i = false ∧ FsTo l d f k)
theorem MayTo.keep {l : List US} {d i k : Nat} {f : Int} {u : US} (h : MayTo l d f i k true) (hu : l[k]? = some u) (hor : d.testBit k = true ∨ ¬ u.t < f) : MayTo l d f i (k + 1) true :=
  ⟨fun _ => ⟨(h.1 rfl).1, (h.1 rfl).2.next hu hor⟩, fun _ => rfl⟩
theorem MayTo.no {l : List US} {d i k : Nat} {f : Int} {u : US} (hu : l[k]? = some u) (hb : d.testBit k = false) (ht : u.t < f) : MayTo l d f i (k + 1) false :=
  ⟨fun e => (by cases e), fun e => absurd ht (e.2 k u (by omega) hu hb)⟩
theorem MayTo.stop {l : List US} {d i k n : Nat} {f : Int} (h : MayTo l d f i k false) (hk : k ≤ n) : MayTo l d f i n false :=
  ⟨fun e => (by cases e), fun e => h.2 ⟨e.1, fun j x hj hx hb => e.2 j x (by omega) hx hb⟩⟩
set_option maxHeartbeats 1600000 in
set_option maxRecDepth 100000 in
theorem rorder (l : List US) (a : Option Addr) (n cap : Nat) (hn : n ≤ 12) (hnu : ∀ u ∈ l, NU u) (k : Nat) : ∀ (d : Nat) (v : ByteArray) (w : World), und n d ≤ k → d < 4096 → v.size ≤ maxLen → SR w (.slice a n cap) 4 n (uCs l) →
    Calls Try.prog 19 #[.slice a n cap, .int .i64 (d : Nat), .string v] w fun e w' => BR e (Ord l d v) ∧ Below w.heap.size w w' := by
  induction k using Nat.strongRecOn with
  | _ k ih =>
  intro d v w hk hd hv hsr
  have HLL := Lib.hid (sr_len4 hsr)
  have HS := Lib.hid hsr
  have HIH := Lib.hid ih
  have HU := Lib.hid hnu
  have HI := Lib.hid (And.intro hk hv)
  clear hk hv hsr ih hnu
  go_enter Try.func19, Try.ntmps19
  go_upto_region 3 with fail
  go_loopw [7, 8] (fun lv iv wr => ∃ (i : Nat) (b : Bool), i ≤ n ∧ lv = .bool b ∧ iv = .int .i64 i ∧ Hid (LeftTo l d i b) ∧ wr = w) (fun _ iv _ => n - (intOf iv).toNat)
  case atStart => exact ⟨0, false, Nat.zero_le _, rfl, rfl, Lib.hid ⟨fun _ j u hj => by omega, fun _ => rfl⟩, rfl⟩
  case round =>
    obtain ⟨i, b, hi, rfl, rfl, HG, hwr⟩ := hrel
    subst hwr
    by_cases hin : i < n
    · obtain ⟨b1, off, u, rfl, hu, k0, k1, k2, k3⟩ := use_at HS.out i hin
      obtain ⟨K, hK, hbit⟩ := bit_i d i hd
      have HNU := Lib.hid (HU.out u (List.mem_of_getElem? hu))
      have HUI := Lib.hid hu
      obtain ⟨uw, uv, uf, ut⟩ := u
      simp only at k0 k1 k2 k3
      have hi12 : i < 12 := by omega
      clear hu
      cases b
      case true =>
        have HN := Lib.hid HG.out.stays
        go_wp2_with fail
        go_roundw
        case rel => exact ⟨i + 1, true, by omega, rfl, by go_num, HN, trivial⟩
        case measure => simp [intOf]; omega
      case false =>
        cases hbb : d.testBit i
        · rw [hbb] at hbit
          simp only [Bool.false_eq_true, if_false] at hbit
          by_cases ht : ut = 1073741824
          · have hb1 : (ut != 1073741824) = false := by simp [ht]
            have HN := Lib.hid (HG.out.keep HUI.out (.inr (by simp [ht])))
            subst ht
            clear hbb
            go_wp2_with fail
            go_roundw
            case rel => exact ⟨i + 1, false, by omega, rfl, by go_num, HN, trivial⟩
            case measure => simp [intOf]; omega
          · have hb1 : (ut != 1073741824) = true := by simp [ht]
            have HN := Lib.hid (HG.out.more HUI.out hbb (by have := HNU.out.2.2.2.1; simp only at this ⊢; omega))
            have HT := Lib.hid ht
            clear hbb ht
            go_wp2_with fail
            go_roundw
            case rel => exact ⟨i + 1, true, by omega, rfl, by go_num, HN, trivial⟩
            case measure => simp [intOf]; omega
        · rw [hbb] at hbit
          simp only [if_true] at hbit
          have HN := Lib.hid (HG.out.keep HUI.out (.inl hbb))
          clear hbb
          go_wp2_with fail
          go_roundw
          case rel => exact ⟨i + 1, false, by omega, rfl, by go_num, HN, trivial⟩
          case measure => simp [intOf]; omega
    · obtain rfl : n = i := by omega
      cases b
      case false =>
        have HO := Lib.hid ((HG.out.1 rfl).all HLL.out)
        go_wp2_with fail
        go_ret
        exact ⟨BR.t (.over HO.out), Below.refl _ _⟩
      case true =>
        have HNO := Lib.hid (show ¬ Over l d from fun h => by have := HG.out.2 (fun j x _ hx hb => h j x hx hb); cases this)
        go_wp2_with fail
        obtain ⟨w, hw⟩ : ∃ W, W = wr := ⟨_, rfl⟩
        subst hw
        go_loopw [9] (fun iv wr => ∃ i : Nat, i ≤ n ∧ iv = .int .i64 i ∧ Hid (NoTo l d v i ∧ Below w.heap.size w wr)) (fun iv _ => n - (intOf iv).toNat)
        case atStart => exact ⟨0, Nat.zero_le _, rfl, Lib.hid ⟨fun j u hj => by omega, Below.refl _ _⟩⟩
        case round =>
          obtain ⟨i, hi, rfl, HN⟩ := hrel
          clear HG
          by_cases hin : i < n
          · obtain ⟨b1, off, u, rfl, hu, k0, k1, k2, k3⟩ := use_at (HS.out.below HN.out.2) i hin
            obtain ⟨K, hK, hbit⟩ := bit_i d i hd
            have HNU := Lib.hid (HU.out u (List.mem_of_getElem? hu))
            have HUI := Lib.hid hu
            obtain ⟨uw, uv, uf, ut⟩ := u
            simp only at k0 k1 k2 k3
            have hi12 : i < 12 := by omega
            have HK := Lib.hid (And.intro k0 (And.intro k1 (And.intro k2 k3)))
            clear hu k0 k1 k2 k3
            obtain ⟨w4, hw4⟩ : ∃ W, W = wr := ⟨_, rfl⟩
            subst hw4
            have hst : ∃ b : Bool, (Int.tmod (K : Int) 2 == 0) = b ∧ MayTo l d uf i 0 b := by
              cases hbb : d.testBit i
              · rw [hbb] at hbit
                exact ⟨true, by simp [hbit], ⟨fun _ => ⟨hbb, fun j x hj => by omega⟩, fun _ => rfl⟩⟩
              · rw [hbb] at hbit
                exact ⟨false, by simp [hbit], ⟨fun e => (by cases e), fun e => by rw [hbb] at e; cases e.1⟩⟩
            obtain ⟨b0, hb0, hm0⟩ := hst
            have hb0' : ((K : Int) % 2 == 0) = b0 := by rw [← hb0, Int.tmod_eq_emod_of_nonneg (Int.natCast_nonneg K)]
            have HM0 := Lib.hid hm0
            clear hm0 hbit
            go_upto_block 4 with fail
            clear hK hb0 hb0'
            go_cut [10, 11] (fun ov kv wx => ∃ (b : Bool) (q : Nat), ov = .bool b ∧ Hid (MayTo l d uf i n b) ∧ wx = w4.drewN q)
            case first =>
              go_wp2_with fail
              go_loopw [10, 11] (fun ov kv wx => ∃ (m : Nat) (b : Bool) (q : Nat), m ≤ n ∧ ov = .bool b ∧ kv = .int .i64 m ∧ Hid (MayTo l d uf i m b) ∧ wx = w4.drewN q) (fun _ kv _ => n - (intOf kv).toNat)
              case atStart => exact ⟨0, b0, 0, Nat.zero_le _, rfl, rfl, HM0, rfl⟩
              case round =>
                obtain ⟨m, b, q, hm, rfl, rfl, HM, rfl⟩ := hrel
                cases b
                · have HMN := Lib.hid (HM.out.stop hm)
                  have hmn : m < n ∨ n = m := by omega
                  rcases hmn with hmn | rfl
                  all_goals
                    go_wp2_with fail
                    go_meet
                    exact ⟨false, q, rfl, HMN, rfl⟩
                · by_cases hmn : m < n
                  · obtain ⟨b2, off2, u2, he2, hu2, j0, j1, j2, j3⟩ := use_at (HS.out.below HN.out.2) m hmn
                    obtain ⟨rfl, rfl⟩ : b1 = b2 ∧ off = off2 := by simpa using he2
                    obtain ⟨K2, hK2, hbit2⟩ := bit_i d m hd
                    obtain ⟨vw, vv, vf, vt⟩ := u2
                    simp only at j0 j1 j2 j3
                    have HU2 := Lib.hid hu2
                    have k2 : w4.cell? ⟨b1, off + i * 4 + 2, none⟩ = some (.int .i64 uf) := HK.out.2.2.1
                    have hm12 : m < 12 := by omega
                    clear hu2 he2 j0 j1 j2
                    go_upto_region 15 with fail
                    by_cases hmi : m = i
                    · subst hmi
                      have HNX := Lib.hid (HM.out.keep HUI.out (.inr (by have := HNU.out.2.2.1; simp only at this ⊢; omega)))
                      clear hK2 hbit2
                      go_quiet (fail)
                      go_wp2_with fail
                      go_roundw
                      case rel => exact ⟨m + 1, true, _, by omega, rfl, by go_num, HNX, rfl⟩
                      case measure => simp [intOf]; omega
                    · have hmi2 : ((m : Int) == (i : Int)) = false := by simp; omega
                      have hwm : IntKind.u64.wrap (m : Int) = (m : Int) := by rw [IntKind.wrap_u64]; omega
                      have hmn64 : min m 64 = m := by omega
                      have hmi3 : (m == i) = false := by simp; omega
                      have hmi4 : ¬ (m : Int) = (i : Int) := by omega
                      cases hbb : d.testBit m
                      · rw [hbb] at hbit2
                        simp only [Bool.false_eq_true, if_false] at hbit2
                        have hbq : (Int.tmod (K2 : Int) 2 == 1) = false := by simp [hbit2]
                        have hbit3 : (K2 : Int) % 2 = 0 := by rw [← Int.tmod_eq_emod_of_nonneg (Int.natCast_nonneg K2)]; exact hbit2
                        have hbq3 : ((K2 : Int) % 2 == 1) = false := by simp [hbit3]
                        by_cases ht : vt < uf
                        · have HNX := Lib.hid (show MayTo l d uf i (m + 1) false from MayTo.no HU2.out hbb ht)
                          have hge : decide (uf ≤ vt) = false := by simp; omega
                          have hge2 : ¬ uf ≤ vt := by omega
                          clear hbb
                          go_quiet (fail)
                          go_wp2_with fail
                          go_roundw
                          case rel => exact ⟨m + 1, false, _, by omega, rfl, by go_num, HNX, rfl⟩
                          case measure => simp [intOf]; omega
                        · have HNX := Lib.hid (HM.out.keep HU2.out (.inr ht))
                          have hge : decide (uf ≤ vt) = true := by simp; omega
                          have hge2 : uf ≤ vt := by omega
                          clear hbb
                          go_quiet (fail)
                          go_wp2_with fail
                          go_roundw
                          case rel => exact ⟨m + 1, true, _, by omega, rfl, by go_num, HNX, rfl⟩
                          case measure => simp [intOf]; omega
                      · rw [hbb] at hbit2
                        simp only [if_true] at hbit2
                        have hbq : (Int.tmod (K2 : Int) 2 == 1) = true := by simp [hbit2]
                        have hbit3 : (K2 : Int) % 2 = 1 := by rw [← Int.tmod_eq_emod_of_nonneg (Int.natCast_nonneg K2)]; exact hbit2
                        have hbq3 : ((K2 : Int) % 2 == 1) = true := by simp [hbit3]
                        have HNX := Lib.hid (HM.out.keep HU2.out (.inl hbb))
                        clear hbb
                        go_quiet (fail)
                        go_wp2_with fail
                        go_roundw
                        case rel => exact ⟨m + 1, true, _, by omega, rfl, by go_num, HNX, rfl⟩
                        case measure => simp [intOf]; omega
                  · obtain rfl : n = m := by omega
                    go_wp2_with fail
                    go_meet
                    exact ⟨true, q, rfl, HM, rfl⟩
            case rest =>
              obtain ⟨b, q, rfl, HM, rfl⟩ := hcut
              have HN5 := Lib.hid (show NoTo l d v i ∧ Below w.heap.size w (w4.drewN q) from ⟨HN.out.1, below_drewN' HN.out.2 q⟩)
              have k0 : (w4.drewN q).cell? ⟨b1, off + i * 4, none⟩ = some (.bool uw) := HK.out.1
              have k1 : (w4.drewN q).cell? ⟨b1, off + i * 4 + 1, none⟩ = some (.string uv) := HK.out.2.1
              clear HM0 HN HK
              generalize w4.drewN q = w5 at *
              cases b
              case false =>
                have HSK := Lib.hid (HN5.out.1.next HUI.out (fun hb hf _ => by
                  have := HM.out.2 ⟨hb, fun j x _ hx hbj => hf j x hx hbj⟩
                  cases this))
                go_wp2_with fail
                go_roundw
                case rel => exact ⟨i + 1, by omega, by go_num, Lib.hid ⟨HSK.out, HN5.out.2⟩⟩
                case measure => simp [intOf]; omega
              case true =>
                have hbb : d.testBit i = false := (HM.out.1 rfl).1
                have hfs : Fst l d uf := (HM.out.1 rfl).2.all HLL.out
                have hund := und_less (n := n) hin hbb
                have HB2 := Lib.hid (And.intro hbb hfs)
                have hgo : uw = true ∨ (uw = false ∧ uv = v) ∨ (uw = false ∧ uv ≠ v) := by
                  cases uw
                  · by_cases q : uv = v
                    · exact .inr (.inl ⟨rfl, q⟩)
                    · exact .inr (.inr ⟨rfl, q⟩)
                  · exact .inl rfl
                have HUS := Lib.hid (show uv.size ≤ maxLen by have := HNU.out.2.2.2.2; unfold maxLen; simp only at this; omega)
                have cf := HIH.out (k - 1) (by have := HI.out.1; omega) (d ||| 2 ^ i) uv w5 (by have := HI.out.1; omega) (or_lt hd hi12) HUS.out (HS.out.below HN5.out.2)
                have hor := or_i64 hd hi12
                have hsh := shl_onei hi12
                obtain ⟨P2, hP2⟩ : ∃ P : Nat, 2 ^ i = P := ⟨_, rfl⟩
                obtain ⟨E, hE⟩ : ∃ E, d ||| 2 ^ i = E := ⟨_, rfl⟩
                rw [hE] at hor
                rw [hP2] at hor hsh
                simp only [hE] at cf
                have HE := Lib.hid hE
                clear hbb hfs hund hP2 hE HM
                rcases hgo with rfl | ⟨rfl, rfl⟩ | ⟨rfl, hne⟩
                rotate_left 2
                · have HSK := Lib.hid (HN5.out.1.next HUI.out (fun _ _ q => absurd (q rfl) hne))
                  have hne2 : (uv.toList == v.toList) = false := by
                    rw [beq_eq_false_iff_ne, ByteArray.toList_eq, ByteArray.toList_eq]
                    exact fun q => hne (str_ext q)
                  have hne3 : (uv.toList != v.toList) = true := by simp [bne, hne2]
                  clear cf hor hsh
                  go_wp2_with fail
                  go_roundw
                  case rel => exact ⟨i + 1, by omega, by go_num, Lib.hid ⟨HSK.out, HN5.out.2⟩⟩
                  case measure => simp [intOf]; omega
                all_goals
                  go_wp2_with fail
                  refine Calls.mono cf ?_
                  rintro e w6 ⟨⟨b6, rfl, hb6⟩, hbl⟩
                  have HBL := Lib.hid (HN5.out.2.trans (hbl.mono HN5.out.2.size))
                  clear cf hor hsh hbl
                  cases b6
                  case true =>
                    have hord : Ord l E uv := hb6.1 rfl
                    rw [← HE.out] at hord
                    first | have HO := Lib.hid (show Ord l d v from Ord.step HUI.out HB2.out.1 HB2.out.2 (by intro q; first | (cases q; done) | rfl) hord) | have HO := Lib.hid (show Ord l d uv from Ord.step HUI.out HB2.out.1 HB2.out.2 (by intro q; first | (cases q; done) | rfl) hord)
                    clear hord hb6
                    go_wp2_with fail
                    go_ret
                    exact ⟨BR.t HO.out, HBL.out⟩
                  case false =>
                    have hno : ¬ Ord l E uv := fun q => by cases hb6.2 q
                    rw [← HE.out] at hno
                    have HSK := Lib.hid (HN5.out.1.next HUI.out (fun _ _ _ => hno))
                    clear hno hb6
                    go_wp2_with fail
                    go_roundw
                    case rel => exact ⟨i + 1, by omega, by go_num, Lib.hid ⟨HSK.out, HBL.out⟩⟩
                    case measure => simp [intOf]; omega
          · obtain rfl : n = i := by omega
            have HNO2 := Lib.hid (ord_not HNO.out (fun j x hx => HN.out.1 j x (by have := HLL.out; have := (List.getElem?_eq_some_iff.1 hx).1; omega) hx))
            have HB := Lib.hid HN.out.2
            go_wp2_with fail
            go_ret
            exact ⟨BR.f HNO2.out, HB.out⟩
end Go.Proofs.Ytbmjkieikaapfaa
