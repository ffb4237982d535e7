/-
  hexa: Long, where it is none; what a text is without its star; HexaLong.
-/
import Derived.Test.YtbncifmmahgfeaaHexaI
namespace Go.Proofs.Ytbncifmmahgfeaa
open Go.RowKit
set_option linter.unusedVariables false
set_option linter.unusedSimpArgs false

theorem csuffix0 (w : World) : Calls Try.prog 19 #[.string ⟨#[]⟩, .string ⟨#[42]⟩] w fun e w' => e = .returned (.tuple #[.string ⟨#[]⟩, .bool false]) ∧ w = w' := by
  have hc := fun w => Try.stringslite_HasSuffix ⟨#[]⟩ ⟨#[42]⟩ w (by decide)
  have e : Lib.hasSuffix (⟨#[]⟩ : ByteArray).data.toList (⟨#[42]⟩ : ByteArray).data.toList = false := by decide
  rw [e] at hc
  have hi : ∀ w, Calls Try.prog 21 #[.string ⟨#[]⟩, .string ⟨#[42]⟩] w fun e w' => e = .returned (.tuple #[.string ⟨#[]⟩, .bool false]) ∧ w = w' := by
    intro w
    go_enter Try.func21, Try.ntmps21
    go_wp2_with fail
    refine Calls.mono (hc _) ?_
    rintro e w2 ⟨rfl, rfl⟩
    go_wp2_with fail
    go_returns
    exact ⟨rfl, rfl⟩
  go_enter Try.func19, Try.ntmps19
  go_wp2_with fail
  refine Calls.mono (hi _) ?_
  rintro e w2 ⟨rfl, rfl⟩
  go_wp2_with fail
  go_returns
  exact ⟨rfl, rfl⟩
/-- a text, what it is without its star, and whether it has one -/
def Star (B b : ByteArray) (h : Bool) : Prop := (B = ⟨#[]⟩ ∧ b = B ∧ h = false) ∨ ∃ m x, ∃ hm : B.size = m + 1, B[m]'(by omega) = x ∧ ((x = 42 ∧ h = true ∧ b = B.extract 0 m) ∨ (x ≠ 42 ∧ h = false ∧ b = B))
theorem star_is (B : ByteArray) (hs : B.size ≤ 1000) : ∃ b h, Star B b h ∧ b.size ≤ B.size ∧ ∀ w, Calls Try.prog 19 #[.string B, .string ⟨#[42]⟩] w fun e w' => e = .returned (.tuple #[.string b, .bool h]) ∧ w = w' := by
  rcases Nat.eq_zero_or_pos B.size with h0 | h0
  · have hB : B = ⟨#[]⟩ := by
      have e : B = ByteArray.empty := by simpa using h0
      exact e.trans rfl
    subst hB
    exact ⟨_, false, .inl ⟨rfl, rfl, rfl⟩, Nat.le_refl _, csuffix0⟩
  · obtain ⟨m, hm⟩ : ∃ m, B.size = m + 1 := ⟨B.size - 1, by omega⟩
    have hl : B.data.toList = B.data.toList.take m ++ [B[m]'(by omega)] := by
      rw [← bytes_succ B m (by omega), ← hm, bytes_all]
    have hsuf : Lib.hasSuffix B.data.toList [42] = ((B[m]'(by omega)) == 42) := by
      conv => lhs; rw [hl]
      exact star_of _ _
    by_cases hx : B[m]'(by omega) = 42
    · have h1 : Lib.hasSuffix B.data.toList [42] = true := by rw [hsuf, hx]; rfl
      exact ⟨B.extract 0 m, true, .inr ⟨m, _, hm, rfl, .inl ⟨hx, rfl, rfl⟩⟩, by rw [ByteArray.size_extract]; omega, fun w => csuffix B _ true w hs h1 (by omega) (by rw [if_pos rfl, hm]; rfl)⟩
    · have h1 : Lib.hasSuffix B.data.toList [42] = false := by rw [hsuf, beq_eq_false_iff_ne]; exact hx
      exact ⟨B, false, .inr ⟨m, _, hm, rfl, .inr ⟨hx, rfl, rfl⟩⟩, Nat.le_refl _, fun w => csuffix B _ false w hs h1 (by omega) rfl⟩
theorem hlong_err (s b : ByteArray) (h : Bool) (p : Int) (w : World) (hcut : ∀ w, Calls Try.prog 19 #[.string s, .string ⟨#[42]⟩] w fun e w' => e = .returned (.tuple #[.string b, .bool h]) ∧ w = w')
    (hg : ∀ w, Calls Try.prog 7 #[.string b] w fun e w' => e = .returned (.tuple #[.string ⟨#[]⟩, .int .i64 p, .int .i64 440]) ∧ Below w.heap.size w w') :
    Calls Try.prog 13 #[.string s] w fun e w' => e = .returned (.tuple #[.string ⟨#[]⟩, .int .i64 p, .int .i64 440]) ∧ Below w.heap.size w w' := by
  go_enter Try.func13, Try.ntmps13
  go_wp2_with fail
  refine Calls.mono (hcut _) ?_
  rintro e w2 ⟨rfl, rfl⟩
  go_wp2_with fail
  refine Calls.mono (hg _) ?_
  rintro e w3 ⟨rfl, hb3⟩
  go_wp2_with fail
  go_returns
  exact ⟨rfl, hb3⟩
theorem ne_toList {V : ByteArray} {v : Nat} (hV : V.size = v + 1) : ¬ V.toList = [] := by
  intro e
  rw [ByteArray.toList_eq] at e
  have := toList_len V
  rw [e] at this
  simp at this
  omega
set_option maxRecDepth 100000 in
theorem hlong_none (s b V : ByteArray) (h : Bool) (w : World) (hcut : ∀ w, Calls Try.prog 19 #[.string s, .string ⟨#[42]⟩] w fun e w' => e = .returned (.tuple #[.string b, .bool h]) ∧ w = w')
    (hg : ∀ w, Calls Try.prog 7 #[.string b] w fun e w' => e = .returned (.tuple #[.string V, .int .i64 0, .int .i64 0]) ∧ Below w.heap.size w w') (hV : V.size ≤ 1000) (hc : V = ⟨#[]⟩ ∨ (32 < V.size) ∨ (V.size < 32 ∧ 0 < V.size ∧ h = false)) :
    Calls Try.prog 13 #[.string s] w fun e w' => e = .returned (.tuple #[.string ⟨#[]⟩, .int .i64 (s.size : Int), .int .i64 440]) ∧ Below w.heap.size w w' := by
  rcases hc with rfl | h32 | ⟨h32, h0, rfl⟩
  · go_enter Try.func13, Try.ntmps13
    go_wp2_with fail
    refine Calls.mono (hcut _) ?_
    rintro e w2 ⟨rfl, rfl⟩
    go_wp2_with fail
    refine Calls.mono (hg _) ?_
    rintro e w3 ⟨rfl, hb3⟩
    go_wp2_with fail
    go_returns
    exact ⟨rfl, hb3⟩
  · have h1 := ne_toList (v := V.size - 1) (by omega : V.size = V.size - 1 + 1)
    have h2 : (V.toList == []) = false := by rw [beq_eq_false_iff_ne]; exact h1
    have h3 : (32 : Int) - (V.size : Int) < 0 := by omega
    go_enter Try.func13, Try.ntmps13
    go_wp2_with fail
    refine Calls.mono (hcut _) ?_
    rintro e w2 ⟨rfl, rfl⟩
    go_wp2_with fail
    refine Calls.mono (hg _) ?_
    rintro e w3 ⟨rfl, hb3⟩
    go_wp2_with fail
    go_returns
    exact ⟨rfl, hb3⟩
  · have h1 := ne_toList (v := V.size - 1) (by omega : V.size = V.size - 1 + 1)
    have h2 : (V.toList == []) = false := by rw [beq_eq_false_iff_ne]; exact h1
    have h3 : ¬ ((32 : Int) - (V.size : Int) < 0) := by omega
    have h4 : (0 : Int) < (32 : Int) - (V.size : Int) := by omega
    go_enter Try.func13, Try.ntmps13
    go_wp2_with fail
    refine Calls.mono (hcut _) ?_
    rintro e w2 ⟨rfl, rfl⟩
    go_wp2_with fail
    refine Calls.mono (hg _) ?_
    rintro e w3 ⟨rfl, hb3⟩
    go_wp2_with fail
    go_returns
    exact ⟨rfl, hb3⟩
theorem qput {P : Program} {f : FuncId} {args : Array Value} {w : World} {a n : Nat} {v : Value} (h : Calls P f args (w.drewN (a + n)) fun e w' => e = .returned v ∧ ∃ k, w' = (w.drewN (a + n)).drewN k) :
    Calls P f args (w.drewN (a + n)) fun e w'' => e = .returned v ∧ ∃ m, w'' = w.drewN (a + m) := h.mono fun _ _ ⟨he, k, hk⟩ => ⟨he, n + k, by rw [hk, World.drewN_drewN, Nat.add_assoc]⟩
theorem qput0 {P : Program} {f : FuncId} {args : Array Value} {w : World} {n : Nat} {v : Value} (h : Calls P f args (w.drewN n) fun e w' => e = .returned v ∧ ∃ k, w' = (w.drewN n).drewN k) :
    Calls P f args (w.drewN n) fun e w'' => e = .returned v ∧ ∃ m, w'' = w.drewN m := h.mono fun _ _ ⟨he, k, hk⟩ => ⟨he, n + k, by rw [hk, World.drewN_drewN]⟩
set_option maxHeartbeats 6400000 in
set_option maxRecDepth 100000 in
theorem hexalong_law (s : ByteArray) (star : Bool) (o : ByteArray) (w : World) (hs : s.size ≤ maxLen) (ho : o.size ≤ maxLen) :
    Calls Try.prog 6 #[.string s, .bool star, .string o] w fun e w' => e = .returned (.bool true) ∧ Below w.heap.size w w' := by
  obtain ⟨t, ht⟩ : ∃ t, min (s.size : Int) 40 = t := ⟨_, rfl⟩
  have ht1 : t ≤ 40 := by omega
  have ht2 : t ≤ (s.size : Int) := by omega
  have ht0 : 0 ≤ t := by omega
  obtain ⟨T, hT⟩ : ∃ T : ByteArray, s.extract 0 t.toNat = T := ⟨_, rfl⟩
  have hTs : T.size ≤ 40 := by rw [← hT, ByteArray.size_extract]; omega
  have cr := fun w => rput T w (by omega)
  obtain ⟨P, hP⟩ : ∃ P : ByteArray, (⟨(hexL T.data.toList).toArray⟩ : ByteArray) = P := ⟨_, rfl⟩
  have hPs : P.size ≤ 80 := by
    rw [← hP]
    show (hexL T.data.toList).toArray.size ≤ 80
    rw [List.size_toArray, hexL_len, toList_len]
    omega
  rw [hP] at cr
  obtain ⟨u, hu⟩ : ∃ u, min (o.size : Int) 3 = u := ⟨_, rfl⟩
  have hu1 : u ≤ 3 := by omega
  have hu2 : u ≤ (o.size : Int) := by omega
  have hu0 : 0 ≤ u := by omega
  unfold maxLen at hs ho
  clear hP hTs
  go_enter Try.func6, Try.ntmps6
  go_upto_region 1 with fail
  go_cut [7] from 15 to 26 (fun v wx => ∃ B : ByteArray, v = .string B ∧ B.size ≤ 83 ∧ ∃ n, wx = w.drewN n)
  case first =>
    go_quiet ((go_at_call 10; exact qput0 (cr _)))
    go_wp2_with fail
    go_meet
    exact ⟨_, rfl, by { simp only [ByteArray.size_append, ByteArray.size_extract]; omega }, _, rfl⟩
  case rest =>
    obtain ⟨B0, rfl, hB0, n0, rfl⟩ := hcut
    clear hu hu0 hu1 hu2 ht ht0 ht1 ht2 hT hPs cr
    go_upto_if 27 with fail
    go_cut [7] from 28 to 29 (fun v wx => ∃ B : ByteArray, v = .string B ∧ B.size ≤ 84 ∧ wx = w.drewN n0)
    case first =>
      cases star
      · go_wp2_with fail
        go_meet
        exact ⟨_, rfl, by omega, rfl⟩
      · go_wp2_with fail
        go_meet
        exact ⟨_, rfl, by { rw [ByteArray.size_append]; have : (⟨#[42]⟩ : ByteArray).size = 1 := rfl; omega }, rfl⟩
    case rest =>
      obtain ⟨B, rfl, hB, rfl⟩ := hcut
      clear hB0
      obtain ⟨b, h, hst, hbB, hcs⟩ := star_is B (by omega)
      obtain ⟨L, hL, hg, hbd⟩ := first_bad b
      have c1 := fun w => hget b L w (by omega) hL hg hbd
      have c2 := fun w => rget b L w (by omega) hL hg hbd
      clear hg hbd
      have HST := Lib.hid hst
      clear hst
      have hcase : (∃ p : Nat, getR b L = .tuple #[.string ⟨#[]⟩, .int .i64 p, .int .i64 440] ∧ getM b L = .tuple #[.string ⟨#[]⟩, .int .i64 p]) ∨ (L = b.size ∧ b.size % 2 = 0) := by
        by_cases h1 : L < b.size
        · exact .inl ⟨L, by unfold getR; rw [if_pos h1], by unfold getM; rw [if_pos h1]⟩
        · by_cases h2 : b.size % 2 = 1
          · exact .inl ⟨b.size - 1, by unfold getR; rw [if_neg h1, if_pos h2, show (b.size : Int) - 1 = ((b.size - 1 : Nat) : Int) by omega], by unfold getM; rw [if_neg h1, if_pos h2, show (b.size : Int) - 1 = ((b.size - 1 : Nat) : Int) by omega]⟩
          · exact .inr ⟨by omega, by omega⟩
      rcases hcase with ⟨p, e1, e2⟩ | ⟨hLb, hev⟩
      · rw [e1] at c1
        rw [e2] at c2
        have cl := fun w => hlong_err B b h p w hcs c1
        have hp0 : (0 : Int) ≤ (p : Int) := by omega
        clear e1 e2 c1 hcs
        go_wp2_with fail
        refine Calls.mono (cl _) ?_
        rintro e w3 ⟨rfl, hb3⟩
        have HB3 := Lib.hid (below_of_drewN hb3)
        clear hb3 cl
        go_upto_region 6 with fail
        go_cut [47] from 37 to 46 (fun v wx => v = .bool h ∧ wx = w3)
        case first =>
          rcases HST.out with ⟨h1, h2, h3⟩ | ⟨m, x, hm, hx, ⟨h1, h2, h3⟩ | ⟨h1, h2, h3⟩⟩
          · subst h3
            subst h1
            go_wp2_with fail
            go_meet
            exact ⟨rfl, rfl⟩
          · subst h2
            subst h1
            have hmi : (B.size : Int) - 1 = (m : Int) := by omega
            have hml : (m : Int) < (B.size : Int) := by omega
            have hm0 : (0 : Int) < (B.size : Int) := by omega
            go_wp2_with fail
            go_meet
            exact ⟨rfl, rfl⟩
          · subst h2
            have hmi : (B.size : Int) - 1 = (m : Int) := by omega
            have hml : (m : Int) < (B.size : Int) := by omega
            have hm0 : (0 : Int) < (B.size : Int) := by omega
            have hx1 : ¬ (x.toNat = 42) := fun e => h1 (UInt8.toNat_inj.1 (by rw [e]; rfl))
            have hx2 : ((x.toNat : Int) == 42) = false := by rw [beq_eq_false_iff_ne]; omega
            go_wp2_with fail
            go_meet
            exact ⟨rfl, rfl⟩
        case rest =>
          obtain ⟨rfl, hw3⟩ := hcut
          subst hw3
          go_upto_if 47 with fail
          go_cut [11, 12] from 48 to 52 (fun v k wx => v = .string b ∧ k = .bool h ∧ wx = wc)
          case first =>
            rcases HST.out with ⟨h1, h2, h3⟩ | ⟨m, x, hm, hx, ⟨h1, h2, h3⟩ | ⟨h1, h2, h3⟩⟩
            · subst h3
              subst h2
              clear h1
              go_wp2_with fail
              go_meet
              exact ⟨rfl, rfl, rfl⟩
            · subst h2
              have hmi : (B.size : Int) - 1 = (m : Int) := by omega
              have hml : (m : Int) ≤ (B.size : Int) := by omega
              go_wp2_with fail
              go_meet
              exact ⟨by rw [h3], rfl, rfl⟩
            · subst h2
              subst h3
              go_wp2_with fail
              go_meet
              exact ⟨rfl, rfl, rfl⟩
          case rest =>
            obtain ⟨rfl, rfl, hw4⟩ := hcut
            obtain ⟨w5, hw5⟩ : ∃ x, x = wc := ⟨_, rfl⟩
            subst hw5
            try subst hw4
            go_wp2_with fail
            refine Calls.mono (c2 _) ?_
            rintro e w6 ⟨rfl, hb6⟩
            have HB6 := Lib.hid (below_trans HB3.out hb6 HB3.out.size)
            clear hb6 c2
            go_wp2_with fail
            refine Calls.mono (awake44 _) ?_
            rintro e w7 ⟨rfl, hb7⟩
            have HB7 := Lib.hid (below_trans HB6.out hb7 HB6.out.size)
            clear hb7
            go_wp2_with fail
            go_ret
            exact ⟨by first | rfl | exact ret_bool (by simp), HB7.out⟩
      · obtain ⟨V, hV⟩ : ∃ V : ByteArray, (⟨(valL b (b.size / 2)).toArray⟩ : ByteArray) = V := ⟨_, rfl⟩
        have hVs : V.size ≤ 42 := by
          rw [← hV]
          show (valL b (b.size / 2)).toArray.size ≤ 42
          rw [List.size_toArray, valL_len]; omega
        have e1 : getR b L = .tuple #[.string V, .int .i64 0, .int .i64 0] := by unfold getR; rw [if_neg (by omega), if_neg (by omega), hV]
        have e2 : getM b L = .tuple #[.string V, .int .i64 (-1)] := by unfold getM; rw [if_neg (by omega), if_neg (by omega), hV]
        rw [e1] at c1
        rw [e2] at c2
        clear e1 e2 hV hLb hev hL
        have hparts : V = ⟨#[]⟩ ∨ (32 < V.size) ∨ (V.size < 32 ∧ 0 < V.size ∧ h = false) ∨ (0 < V.size ∧ V.size ≤ 32 ∧ (V.size = 32 ∨ h = true)) := by
          rcases Nat.eq_zero_or_pos V.size with h0 | h0
          · left
            have e : V = ByteArray.empty := by simpa using h0
            exact e.trans rfl
          · cases h
            · by_cases hv32 : V.size = 32
              · exact .inr (.inr (.inr ⟨h0, by omega, .inl hv32⟩))
              · by_cases hv : 32 < V.size
                · exact .inr (.inl hv)
                · exact .inr (.inr (.inl ⟨by omega, h0, rfl⟩))
            · by_cases hv : 32 < V.size
              · exact .inr (.inl hv)
              · exact .inr (.inr (.inr ⟨h0, by omega, .inr rfl⟩))
        rcases hparts with h1 | h1 | ⟨h1, h1', h1''⟩ | ⟨h1, h1', h1''⟩
        · subst h1
          obtain ⟨bz, hbz⟩ : ∃ p : Int, (B.size : Int) = p := ⟨_, rfl⟩
          have cl := fun w => hlong_none B b ⟨#[]⟩ h w hcs c1 (by decide) (.inl rfl)
          rw [hbz] at cl
          have HBZ := Lib.hid hbz
          clear hbz
          clear c1 hcs
          go_wp2_with fail
          refine Calls.mono (cl _) ?_
          rintro e w3 ⟨rfl, hb3⟩
          have HB3 := Lib.hid (below_of_drewN hb3)
          clear hb3 cl
          go_upto_region 6 with fail
          go_cut [47] from 37 to 46 (fun v wx => v = .bool h ∧ wx = w3)
          case first =>
            rcases HST.out with ⟨h1, h2, h3⟩ | ⟨m, x, hm, hx, ⟨h1, h2, h3⟩ | ⟨h1, h2, h3⟩⟩
            · subst h3
              subst h1
              go_wp2_with fail
              go_meet
              exact ⟨rfl, rfl⟩
            · subst h2
              subst h1
              have hmi : (B.size : Int) - 1 = (m : Int) := by omega
              have hml : (m : Int) < (B.size : Int) := by omega
              have hm0 : (0 : Int) < (B.size : Int) := by omega
              go_wp2_with fail
              go_meet
              exact ⟨rfl, rfl⟩
            · subst h2
              have hmi : (B.size : Int) - 1 = (m : Int) := by omega
              have hml : (m : Int) < (B.size : Int) := by omega
              have hm0 : (0 : Int) < (B.size : Int) := by omega
              have hx1 : ¬ (x.toNat = 42) := fun e => h1 (UInt8.toNat_inj.1 (by rw [e]; rfl))
              have hx2 : ((x.toNat : Int) == 42) = false := by rw [beq_eq_false_iff_ne]; omega
              go_wp2_with fail
              go_meet
              exact ⟨rfl, rfl⟩
          case rest =>
            obtain ⟨rfl, hw3⟩ := hcut
            subst hw3
            go_upto_if 47 with fail
            go_cut [11, 12] from 48 to 52 (fun v k wx => v = .string b ∧ k = .bool h ∧ wx = wc)
            case first =>
              rcases HST.out with ⟨h1, h2, h3⟩ | ⟨m, x, hm, hx, ⟨h1, h2, h3⟩ | ⟨h1, h2, h3⟩⟩
              · subst h3
                subst h2
                clear h1
                go_wp2_with fail
                go_meet
                exact ⟨rfl, rfl, rfl⟩
              · subst h2
                have hmi : (B.size : Int) - 1 = (m : Int) := by omega
                have hml : (m : Int) ≤ (B.size : Int) := by omega
                go_wp2_with fail
                go_meet
                exact ⟨by rw [h3], rfl, rfl⟩
              · subst h2
                subst h3
                go_wp2_with fail
                go_meet
                exact ⟨rfl, rfl, rfl⟩
            case rest =>
              obtain ⟨rfl, rfl, hw4⟩ := hcut
              obtain ⟨w5, hw5⟩ : ∃ x, x = wc := ⟨_, rfl⟩
              subst hw5
              try subst hw4
              have hbz := HBZ.out
              go_wp2_with fail
              refine Calls.mono (c2 _) ?_
              rintro e w6 ⟨rfl, hb6⟩
              have HB6 := Lib.hid (below_trans HB3.out hb6 HB3.out.size)
              clear hb6 c2
              go_wp2_with fail
              refine Calls.mono (awake44 _) ?_
              rintro e w7 ⟨rfl, hb7⟩
              have HB7 := Lib.hid (below_trans HB6.out hb7 HB6.out.size)
              clear hb7
              go_wp2_with fail
              go_ret
              exact ⟨by first | rfl | exact ret_bool (by simp), HB7.out⟩
        · obtain ⟨bz, hbz⟩ : ∃ p : Int, (B.size : Int) = p := ⟨_, rfl⟩
          have cl := fun w => hlong_none B b V h w hcs c1 (by omega) (.inr (.inl h1))
          rw [hbz] at cl
          have HBZ := Lib.hid hbz
          clear hbz
          have n1 := ne_toList (v := V.size - 1) (by omega : V.size = V.size - 1 + 1)
          have n2 : (V.toList == []) = false := by rw [beq_eq_false_iff_ne]; exact n1
          have n3 : (32 : Int) < (V.size : Int) := by omega
          clear c1 hcs
          go_wp2_with fail
          refine Calls.mono (cl _) ?_
          rintro e w3 ⟨rfl, hb3⟩
          have HB3 := Lib.hid (below_of_drewN hb3)
          clear hb3 cl
          go_upto_region 6 with fail
          go_cut [47] from 37 to 46 (fun v wx => v = .bool h ∧ wx = w3)
          case first =>
            rcases HST.out with ⟨h1, h2, h3⟩ | ⟨m, x, hm, hx, ⟨h1, h2, h3⟩ | ⟨h1, h2, h3⟩⟩
            · subst h3
              subst h1
              go_wp2_with fail
              go_meet
              exact ⟨rfl, rfl⟩
            · subst h2
              subst h1
              have hmi : (B.size : Int) - 1 = (m : Int) := by omega
              have hml : (m : Int) < (B.size : Int) := by omega
              have hm0 : (0 : Int) < (B.size : Int) := by omega
              go_wp2_with fail
              go_meet
              exact ⟨rfl, rfl⟩
            · subst h2
              have hmi : (B.size : Int) - 1 = (m : Int) := by omega
              have hml : (m : Int) < (B.size : Int) := by omega
              have hm0 : (0 : Int) < (B.size : Int) := by omega
              have hx1 : ¬ (x.toNat = 42) := fun e => h1 (UInt8.toNat_inj.1 (by rw [e]; rfl))
              have hx2 : ((x.toNat : Int) == 42) = false := by rw [beq_eq_false_iff_ne]; omega
              go_wp2_with fail
              go_meet
              exact ⟨rfl, rfl⟩
          case rest =>
            obtain ⟨rfl, hw3⟩ := hcut
            subst hw3
            go_upto_if 47 with fail
            go_cut [11, 12] from 48 to 52 (fun v k wx => v = .string b ∧ k = .bool h ∧ wx = wc)
            case first =>
              rcases HST.out with ⟨h1, h2, h3⟩ | ⟨m, x, hm, hx, ⟨h1, h2, h3⟩ | ⟨h1, h2, h3⟩⟩
              · subst h3
                subst h2
                clear h1
                go_wp2_with fail
                go_meet
                exact ⟨rfl, rfl, rfl⟩
              · subst h2
                have hmi : (B.size : Int) - 1 = (m : Int) := by omega
                have hml : (m : Int) ≤ (B.size : Int) := by omega
                go_wp2_with fail
                go_meet
                exact ⟨by rw [h3], rfl, rfl⟩
              · subst h2
                subst h3
                go_wp2_with fail
                go_meet
                exact ⟨rfl, rfl, rfl⟩
            case rest =>
              obtain ⟨rfl, rfl, hw4⟩ := hcut
              obtain ⟨w5, hw5⟩ : ∃ x, x = wc := ⟨_, rfl⟩
              subst hw5
              try subst hw4
              have hbz := HBZ.out
              go_wp2_with fail
              refine Calls.mono (c2 _) ?_
              rintro e w6 ⟨rfl, hb6⟩
              have HB6 := Lib.hid (below_trans HB3.out hb6 HB3.out.size)
              clear hb6 c2
              go_wp2_with fail
              refine Calls.mono (awake44 _) ?_
              rintro e w7 ⟨rfl, hb7⟩
              have HB7 := Lib.hid (below_trans HB6.out hb7 HB6.out.size)
              clear hb7
              go_wp2_with fail
              go_ret
              exact ⟨by first | rfl | exact ret_bool (by simp), HB7.out⟩
        · obtain ⟨bz, hbz⟩ : ∃ p : Int, (B.size : Int) = p := ⟨_, rfl⟩
          have cl := fun w => hlong_none B b V h w hcs c1 (by omega) (.inr (.inr ⟨h1, h1', h1''⟩))
          rw [hbz] at cl
          have HBZ := Lib.hid hbz
          clear hbz
          have HH := Lib.hid h1''
          clear h1''
          have n1 := ne_toList (v := V.size - 1) (by omega : V.size = V.size - 1 + 1)
          have n2 : (V.toList == []) = false := by rw [beq_eq_false_iff_ne]; exact n1
          have n3 : ¬ ((32 : Int) < (V.size : Int)) := by omega
          have n4 : (V.size : Int) < 32 := by omega
          clear c1 hcs
          go_wp2_with fail
          refine Calls.mono (cl _) ?_
          rintro e w3 ⟨rfl, hb3⟩
          have HB3 := Lib.hid (below_of_drewN hb3)
          clear hb3 cl
          go_upto_region 6 with fail
          go_cut [47] from 37 to 46 (fun v wx => v = .bool h ∧ wx = w3)
          case first =>
            rcases HST.out with ⟨h1, h2, h3⟩ | ⟨m, x, hm, hx, ⟨h1, h2, h3⟩ | ⟨h1, h2, h3⟩⟩
            · subst h3
              subst h1
              go_wp2_with fail
              go_meet
              exact ⟨rfl, rfl⟩
            · subst h2
              subst h1
              have hmi : (B.size : Int) - 1 = (m : Int) := by omega
              have hml : (m : Int) < (B.size : Int) := by omega
              have hm0 : (0 : Int) < (B.size : Int) := by omega
              go_wp2_with fail
              go_meet
              exact ⟨rfl, rfl⟩
            · subst h2
              have hmi : (B.size : Int) - 1 = (m : Int) := by omega
              have hml : (m : Int) < (B.size : Int) := by omega
              have hm0 : (0 : Int) < (B.size : Int) := by omega
              have hx1 : ¬ (x.toNat = 42) := fun e => h1 (UInt8.toNat_inj.1 (by rw [e]; rfl))
              have hx2 : ((x.toNat : Int) == 42) = false := by rw [beq_eq_false_iff_ne]; omega
              go_wp2_with fail
              go_meet
              exact ⟨rfl, rfl⟩
          case rest =>
            obtain ⟨rfl, hw3⟩ := hcut
            subst hw3
            go_upto_if 47 with fail
            go_cut [11, 12] from 48 to 52 (fun v k wx => v = .string b ∧ k = .bool h ∧ wx = wc)
            case first =>
              rcases HST.out with ⟨h1, h2, h3⟩ | ⟨m, x, hm, hx, ⟨h1, h2, h3⟩ | ⟨h1, h2, h3⟩⟩
              · subst h3
                subst h2
                clear h1
                go_wp2_with fail
                go_meet
                exact ⟨rfl, rfl, rfl⟩
              · subst h2
                have hmi : (B.size : Int) - 1 = (m : Int) := by omega
                have hml : (m : Int) ≤ (B.size : Int) := by omega
                go_wp2_with fail
                go_meet
                exact ⟨by rw [h3], rfl, rfl⟩
              · subst h2
                subst h3
                go_wp2_with fail
                go_meet
                exact ⟨rfl, rfl, rfl⟩
            case rest =>
              obtain ⟨rfl, rfl, hw4⟩ := hcut
              obtain ⟨w5, hw5⟩ : ∃ x, x = wc := ⟨_, rfl⟩
              subst hw5
              try subst hw4
              have hbz := HBZ.out
              go_wp2_with fail
              refine Calls.mono (c2 _) ?_
              rintro e w6 ⟨rfl, hb6⟩
              have HB6 := Lib.hid (below_trans HB3.out hb6 HB3.out.size)
              clear hb6 c2
              have hh := HH.out
              subst hh
              go_wp2_with fail
              refine Calls.mono (awake44 _) ?_
              rintro e w7 ⟨rfl, hb7⟩
              have HB7 := Lib.hid (below_trans HB6.out hb7 HB6.out.size)
              clear hb7
              go_wp2_with fail
              go_ret
              exact ⟨by first | rfl | exact ret_bool (by simp), HB7.out⟩
        · obtain ⟨v, hv⟩ : ∃ v, V.size = v + 1 := ⟨V.size - 1, by omega⟩
          have hvlt : v < V.size := by omega
          obtain ⟨c, hc⟩ : ∃ c : UInt8, V[v]'hvlt = c := ⟨_, rfl⟩
          have hx : V.extract v (v + 1) = ⟨#[c]⟩ := by
            have h := str_extract V.data.toList v (v + 1)
            have e : (⟨V.data.toList.toArray⟩ : ByteArray) = V := rfl
            rw [e] at h
            rw [h]
            have hlv : v < V.data.toList.length := by rw [toList_len]; omega
            have hd : V.data.toList.drop v = [V[v]'(by omega)] := by
              rw [List.drop_eq_getElem_cons hlv, List.drop_eq_nil_of_le (by rw [toList_len]; omega)]; rfl
            rw [hd, hc, show v + 1 - v = 1 by omega]; rfl
          have cl := fun w => hlong_ok B b V h v c w hcs c1 hv (by omega) (h1''.imp (fun h => by omega) id) hx
          have hUs : (V ++ ⟨(List.replicate (31 - v) c).toArray⟩ : ByteArray).size = 32 := by
            rw [ByteArray.size_append]
            have : (⟨(List.replicate (31 - v) c).toArray⟩ : ByteArray).size = 31 - v := by simp [ByteArray.size]
            omega
          have hUl : (V ++ ⟨(List.replicate (31 - v) c).toArray⟩ : ByteArray).data.toList = V.data.toList ++ List.replicate (31 - v) c := by simp
          obtain ⟨U, hU⟩ : ∃ U : ByteArray, (V ++ ⟨(List.replicate (31 - v) c).toArray⟩ : ByteArray) = U := ⟨_, rfl⟩
          rw [hU] at hUs hUl cl
          have hUV : U.extract 0 (v + 1) = V := by
            apply str_ext
            rw [Lib.extract_data, hUl]
            have hl := toList_len V
            simp only [List.drop_zero, Nat.sub_zero]
            rw [← hv, ← hl]
            exact List.take_left' rfl
          have hU31 : U[31]'(by omega) = c := by
            have h31 := getD_at U 31 (by omega)
            rw [← h31, hUl]
            have hl := toList_len V
            by_cases hv31 : v = 31
            · subst hv31
              rw [List.getD_eq_getElem?_getD, List.getElem?_append_left (by omega), ← List.getD_eq_getElem?_getD, getD_at V 31 (by omega)]
              exact hc
            · rw [List.getD_eq_getElem?_getD, List.getElem?_append_right (by omega), List.getElem?_replicate, if_pos (by omega)]; rfl
          have n1 := ne_toList hv
          have n2 : (V.toList == []) = false := by rw [beq_eq_false_iff_ne]; exact n1
          have n3 : ¬ ((32 : Int) < (V.size : Int)) := by omega
          have n5 : (U.size : Int) = 32 := by omega
          have n6 : (V.size : Int) - 1 = (v : Int) := by omega
          have m6 : IntKind.i64.wrap ((V.size : Int) - 1) = (v : Int) := by rw [n6]; exact IntWalk.i64_in _ (by omega)
          have n8 : (V.size : Int) ≤ 32 := by omega
          have n9 : (0 : Int) ≤ (V.size : Int) := by omega
          have n11 : (v : Int) < (V.size : Int) := by omega
          have n12 : (0 : Int) ≤ (v : Int) := by omega
          rw [← hv] at hUV
          have hfit : h = true ∨ (h = false ∧ ¬ ((V.size : Int) < 32)) := by
            cases h
            · right; refine ⟨rfl, ?_⟩; rcases h1'' with h | h
              · omega
              · cases h
            · exact .inl rfl
          have HF := Lib.hid hfit
          have HVV := Lib.hid hv
          have HCC := Lib.hid hc
          clear c1 hcs hx hUl hU hfit h1'' hv
          go_wp2_with fail
          refine Calls.mono (cl _) ?_
          rintro e w3 ⟨rfl, hb3⟩
          have HB3 := Lib.hid (below_of_drewN hb3)
          clear hb3 cl
          go_upto_region 6 with fail
          go_cut [47] from 37 to 46 (fun v wx => v = .bool h ∧ wx = w3)
          case first =>
            rcases HST.out with ⟨h1, h2, h3⟩ | ⟨m, x, hm, hx, ⟨h1, h2, h3⟩ | ⟨h1, h2, h3⟩⟩
            · subst h3
              subst h1
              go_wp2_with fail
              go_meet
              exact ⟨rfl, rfl⟩
            · subst h2
              subst h1
              have hmi : (B.size : Int) - 1 = (m : Int) := by omega
              have hml : (m : Int) < (B.size : Int) := by omega
              have hm0 : (0 : Int) < (B.size : Int) := by omega
              go_wp2_with fail
              go_meet
              exact ⟨rfl, rfl⟩
            · subst h2
              have hmi : (B.size : Int) - 1 = (m : Int) := by omega
              have hml : (m : Int) < (B.size : Int) := by omega
              have hm0 : (0 : Int) < (B.size : Int) := by omega
              have hx1 : ¬ (x.toNat = 42) := fun e => h1 (UInt8.toNat_inj.1 (by rw [e]; rfl))
              have hx2 : ((x.toNat : Int) == 42) = false := by rw [beq_eq_false_iff_ne]; omega
              go_wp2_with fail
              go_meet
              exact ⟨rfl, rfl⟩
          case rest =>
            obtain ⟨rfl, hw3⟩ := hcut
            subst hw3
            go_upto_if 47 with fail
            go_cut [11, 12] from 48 to 52 (fun v k wx => v = .string b ∧ k = .bool h ∧ wx = wc)
            case first =>
              rcases HST.out with ⟨h1, h2, h3⟩ | ⟨m, x, hm, hx, ⟨h1, h2, h3⟩ | ⟨h1, h2, h3⟩⟩
              · subst h3
                subst h2
                clear h1
                go_wp2_with fail
                go_meet
                exact ⟨rfl, rfl, rfl⟩
              · subst h2
                have hmi : (B.size : Int) - 1 = (m : Int) := by omega
                have hml : (m : Int) ≤ (B.size : Int) := by omega
                go_wp2_with fail
                go_meet
                exact ⟨by rw [h3], rfl, rfl⟩
              · subst h2
                subst h3
                go_wp2_with fail
                go_meet
                exact ⟨rfl, rfl, rfl⟩
            case rest =>
              obtain ⟨rfl, rfl, hw4⟩ := hcut
              obtain ⟨w5, hw5⟩ : ∃ x, x = wc := ⟨_, rfl⟩
              subst hw5
              try subst hw4
              go_wp2_with fail
              refine Calls.mono (c2 _) ?_
              rintro e w6 ⟨rfl, hb6⟩
              have HB6 := Lib.hid (below_trans HB3.out hb6 HB3.out.size)
              clear hb6 c2
              rcases HF.out with rfl | ⟨rfl, n10⟩
              all_goals
                go_wp2_with fail
                obtain ⟨N, hN⟩ : ∃ N, w6.heap.size = N := ⟨_, rfl⟩
                have HN := Lib.hid hN
                clear hN
                have hv := HVV.out
                have m6 : IntKind.i64.wrap ((V.size : Int) - 1) = (v : Int) := by rw [show (V.size : Int) - 1 = (v : Int) by omega]; exact IntWalk.i64_in _ (by omega)
                have m7 : IntKind.i64.wrap (v : Int) = (v : Int) := IntWalk.i64_in _ (by omega)
                have n6 : (V.size : Int) - 1 = (v : Int) := by omega
                have n11 : (v : Int) < (V.size : Int) := by omega
                have n12 : (0 : Int) ≤ (v : Int) := by omega
                have n16 : 1 ≤ V.size := by omega
                have n17 : (1 : Int) ≤ (V.size : Int) := by omega
                have hl1 : V.size - 1 < V.size := by omega
                have hc3 : V[V.size - 1]'hl1 = c := by
                  have e : V.size - 1 = v := by omega
                  simp only [e]
                  exact HCC.out
                clear hv
                have ca : ∀ w', N ≤ w'.heap.size → Calls Try.prog 9 #[] w' fun x w'' => x = .returned (.bool true) ∧ Stays N w' w'' := fun w' h => (awake44 w').mono fun e w'' ⟨he, hw⟩ => ⟨he, stays_of h hw⟩
                go_region_held3 (fun w' => N ≤ w'.heap.size ∧ Below N w6 w' ∧ ∀ b o, b < N → w'.cell? ⟨b, o, none⟩ = w6.cell? ⟨b, o, none⟩) (first | assumption | exact keeps_start HN.out | exact keeps_next (by assumption) (by assumption)) (first | (go_at_call 9; refine Calls.mono (ca _ (And.left (by assumption))) ?_; rintro e wz ⟨rfl, hz⟩))
                all_goals
                  rename_i hfin
                  have FIN := Lib.hid hfin.2.1
                  clear hfin
                  try go_wp2_with fail
                  go_ret
                  exact ⟨by first | rfl | exact ret_bool (by simp), below_trans HB6.out (by rw [HN.out]; exact FIN.out) HB6.out.size⟩
end Go.Proofs.Ytbncifmmahgfeaa
