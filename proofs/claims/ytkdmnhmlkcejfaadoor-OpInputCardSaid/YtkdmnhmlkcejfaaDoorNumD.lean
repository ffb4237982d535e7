/-
  The contracts of the document's own Put, Word, Text, Bool and List, and of num's List.
-/
import Derived.Test.YtkdmnhmlkcejfaaDoorNumC
import Derived.Test.YtkdmnhmlkcejfaaDoorBytes
namespace Go.Proofs.YtkdmnhmlkcejfaaDoor
open Go.RowKit
set_option linter.unusedVariables false

theorem refput_any (n : Int) (w : World) (hn : U64 n) :
    Calls Tryd.prog 59 #[.int .u64 n] w fun e w' => e = .returned (.string ⟨(putN n.toNat).toArray⟩) ∧ Below w.heap.size w w' := by
  have hl : (hiN n.toNat).length ≤ 8 := by rw [hiN_length]; exact needN_le _ (by unfold U64 at hn; omega)
  have hcv : ∀ w : World, (convert 76 9 (.slice (some ⟨w.heap.size, 0, none⟩) 1 1)).run Tryd.prog (w.alloc (.cells #[.int .u8 ((hiN n.toNat).length : Nat)] 5)) =
      .ok (.string ⟨#[UInt8.ofNat (needN n.toNat)]⟩) (w.alloc (.cells #[.int .u8 ((hiN n.toNat).length : Nat)] 5)) :=
    lit_string Tryd.underlying76 Tryd.underlying5 Tryd.underlying9 [UInt8.ofNat (needN n.toNat)] _ _ _ rfl (by
      rw [hiN_length] at *
      simp [bCells]
      omega)
  go_enter Tryd.func59, Tryd.ntmps59
  go_wp2_with (go_at_call 86; refine (high_any _ _ hn).mono ?_; rintro e w' ⟨rfl, hb⟩)
  all_goals go_ret
  all_goals refine ⟨ret_str (str_append [_] _), hb.alloc hb.size _⟩
theorem reftext_any (s : List UInt8) (w : World) (hs : s.length ≤ 1073741824) :
    Calls Tryd.prog 37 #[.string ⟨s.toArray⟩] w fun e w' => e = .returned (.string ⟨(putN s.length ++ s).toArray⟩) ∧ Below w.heap.size w w' := by
  have hu : U64 (s.length : Int) := ⟨by omega, by omega⟩
  have hl : (putN s.length).length + s.length ≤ 9223372036854775807 := by have := putN_length s.length (by omega); omega
  go_enter Tryd.func37, Tryd.ntmps37
  go_wp2_with (go_at_call 59; refine (refput_any _ _ hu).mono ?_; rintro e w' ⟨rfl, hb⟩)
  go_ret
  exact ⟨ret_str (str_append _ _), hb⟩
theorem refbool_any (b : Bool) (w : World) :
    Calls Tryd.prog 36 #[.bool b] w fun e w' => e = .returned (.string ⟨(boolB b).toArray⟩) ∧ w = w' := by
  cases b
  all_goals
    go_enter Tryd.func36, Tryd.ntmps36
    go_wp2
    go_ret
    exact ⟨rfl, rfl⟩
theorem needN4 (n : Nat) (h : n ≤ 4294967295) : needN n ≤ 4 := by
  have := Lib.bitLen_le n 32 (by omega) (by omega)
  unfold needN; omega
theorem beN_zero_lead (k m n : Nat) (hk : k ≤ m) (h : n < 256 ^ k) : beN m n = List.replicate (m - k) 0 ++ beN k n := by
  induction m with
  | zero =>
    obtain rfl : k = 0 := by omega
    rfl
  | succ m ih =>
    by_cases e : k = m + 1
    · subst e; simp
    · rw [beN, ih (by omega), show m + 1 - k = (m - k) + 1 by omega, List.replicate_succ]
      have : n / 256 ^ m = 0 := Nat.div_eq_of_lt (Nat.lt_of_lt_of_le h (Nat.pow_le_pow_right (by omega) (by omega)))
      rw [this]; rfl
set_option maxHeartbeats 400000 in
theorem refword_any (n : Int) (w : World) (h0 : 0 ≤ n) (h1 : n ≤ 4294967295) :
    Calls Tryd.prog 60 #[.int .u32 n] w fun e w' => e = .returned (.string ⟨(beN 4 n.toNat).toArray⟩) ∧ Below w.heap.size w w' := by
  have hu : U64 n := ⟨h0, by omega⟩
  have hn4 := needN4 n.toNat (by omega)
  have hfin : beN 4 n.toNat = List.replicate (4 - needN n.toNat) 0 ++ hiN n.toNat := beN_zero_lead _ _ _ hn4 (needN_bound _ (by omega))
  have HF := Lib.hid hfin
  have HU := Lib.hid hu
  have hlen : (hiN n.toNat).length = needN n.toNat := hiN_length _
  have HL := Lib.hid hlen
  clear hfin hu hlen
  go_enter Tryd.func60, Tryd.ntmps60
  go_wp2_with (go_at_call 86; refine (high_any _ _ HU.out).mono ?_; rintro e w' ⟨rfl, hb⟩)
  generalize hiN n.toNat = hh at *
  generalize needN n.toNat = k at *
  go_loop [3] (fun v => ∃ j : Nat, k + j ≤ 4 ∧ v = .string ⟨(List.replicate j 0 ++ hh).toArray⟩) (fun v => 4 - strLen v)
  case atStart => exact ⟨0, by omega, rfl⟩
  case round =>
    obtain ⟨j, hj, rfl⟩ := hrel
    have hlj : (List.replicate j (0 : UInt8) ++ hh).length = j + k := by simp [HL.out]
    obtain ⟨l, hll⟩ : ∃ l, l = List.replicate j (0 : UInt8) ++ hh := ⟨_, rfl⟩
    rw [← hll] at hlj ⊢
    have HH := Lib.hid hll
    clear hll
    by_cases h4 : j + k < 4
    · have h4' : l.length < 4 := by omega
      have hs1 : 1 + l.length ≤ 9223372036854775807 := by omega
      have HJ := Lib.hid hlj
      clear hlj
      go_wp2
      go_round
      case rel => exact ⟨j + 1, by omega, by rw [HH.out]; exact congrArg Value.string (str_append [0] _)⟩
      case measure => simp [strLen]; omega
    · have h4' : 4 ≤ l.length := by omega
      have HJ := Lib.hid hlj
      clear hlj
      go_wp2
      go_ret
      exact ⟨ret_str (by rw [HF.out, HH.out, show 4 - k = j by omega]), hb⟩

/-! ### Lists of numbers -/
/-- a slice of ints that reads so: nil, or a row of cells -/
def Ints (w : World) (v : Value) (zs : List Int) : Prop :=
  ∃ a cap, v = .slice a zs.length cap ∧ zs.length ≤ 9223372036854775807 ∧ (zs = [] ∨ ∃ b off, a = some ⟨b, off, none⟩ ∧ b < w.heap.size ∧ ∀ j, j < zs.length → w.cell? ⟨b, off + j, none⟩ = some (.int .i64 (zs.getD j 0)))
def listN (l : List Int) : List UInt8 := putN l.length ++ l.flatMap fun x => putN x.toNat
theorem listN_snoc (n : Nat) (l : List Int) (k : Nat) (h : k < l.length) : putN n ++ ((l.take k).flatMap fun x => putN x.toNat) ++ putN (l.getD k 0).toNat = putN n ++ (l.take (k + 1)).flatMap fun x => putN x.toNat := by
  rw [List.take_succ_eq_append_getElem h, List.flatMap_append]
  simp [List.getD, h]
theorem flat_len (l : List Int) (hl : ∀ x ∈ l, x ≤ 9223372036854775807) : (l.flatMap fun x => putN x.toNat).length ≤ 9 * l.length := by
  induction l with
  | nil => simp
  | cons x l ih =>
    have := putN_length x.toNat (by have := hl x (by simp); omega)
    have := ih (fun y hy => hl y (by simp [hy]))
    simp at *; omega
set_option maxHeartbeats 800000 in
set_option maxRecDepth 100000 in
theorem list_any (v : Value) (zs : List Int) (w : World) (hv : Ints w v zs) (hn : zs.length ≤ 1000) (hz : ∀ x ∈ zs, x ≤ 9223372036854775807) :
    Calls Tryd.prog 65 #[v] w fun e w' => e = .returned (.string ⟨(listN zs).toArray⟩) ∧ Below w.heap.size w w' := by
  obtain ⟨a, cap, rfl, hm, hc⟩ := hv
  have hu : U64 (zs.length : Int) := ⟨by omega, by omega⟩
  obtain ⟨i0, hi, hz0, hz1, hz2⟩ := info_parts info_u8
  have HU := Lib.hid hu
  clear hu
  go_enter Tryd.func65, Tryd.ntmps65
  go_wp2_with (go_at_call 90; refine (put_any _ _ HU.out).mono ?_; rintro e w' ⟨rfl, hb⟩)
  obtain ⟨v1, w1, hr, hown, hb1⟩ := conv_bytes (P := Tryd.prog) w' (src := 9) (dst := 76) Tryd.underlying9 Tryd.underlying76 Tryd.underlying5 (putN zs.length) (by have := putN_length zs.length (by omega); unfold maxLen; omega)
  have hbw : Below w.heap.size w w1 := hb.trans (hb1.mono hb.size)
  have hown' : OwnB w1 w.heap.size 5 v1 (putN zs.length) := hown.mono hb.size
  simp only [hr]
  clear hr hown hb1
  go_wp2_with fail
  go_loopw [3, 13] (fun v i wr => ∃ k : Nat, k ≤ zs.length ∧ i = .int .i64 k ∧ OwnB wr w.heap.size 5 v (putN zs.length ++ (zs.take k).flatMap fun x => putN x.toNat) ∧ Below w.heap.size w wr) (fun _ i _ => zs.length - (intOf i).toNat)
  case atStart => exact ⟨0, Nat.zero_le _, rfl, by simpa using hown', hbw⟩
  case round =>
    obtain ⟨k, hk, rfl, hown, hbel⟩ := hrel
    by_cases hlt : k < zs.length
    · obtain ⟨b, off, rfl, hb0, hcell⟩ : ∃ b off, a = some ⟨b, off, none⟩ ∧ b < w.heap.size ∧ ∀ j, j < zs.length → w.cell? ⟨b, off + j, none⟩ = some (.int .i64 (zs.getD j 0)) := by
        rcases hc with rfl | h
        · simp at hlt
        · exact h
      have hck : wr.cell? ⟨b, off + k, none⟩ = some (.int .i64 (zs.getD k 0)) := by rw [hbel.cell hb0]; exact hcell k hlt
      have hgt : zs.getD k 0 ≤ 9223372036854775807 := by rw [List.getD, List.getElem?_eq_getElem hlt]; exact hz _ (List.getElem_mem hlt)
      obtain ⟨x, hx⟩ : ∃ x, zs.getD k 0 = x := ⟨_, rfl⟩
      have hfin : putN zs.length ++ ((zs.take k).flatMap fun x => putN x.toNat) ++ putN (max x 0).toNat = putN zs.length ++ (zs.take (k + 1)).flatMap fun x => putN x.toNat := by
        rw [← listN_snoc zs.length zs k hlt, hx, show (max x 0).toNat = x.toNat by omega]
      have hlen : (putN zs.length ++ ((zs.take k).flatMap fun x => putN x.toNat)).length ≤ 10000 := by
        have h1 := putN_length zs.length (by omega)
        have h2 := flat_len (zs.take k) (fun y hy => hz y (List.mem_of_mem_take hy))
        have h3 : (zs.take k).length ≤ k := List.length_take_le _ _
        rw [List.length_append]; omega
      rw [hx] at hck hgt
      have hu2 : U64 (max x 0) := ⟨by omega, by omega⟩
      have hlen2 := putN_length (max x 0).toNat (by omega)
      have hwr : IntKind.u64.wrap (max x 0) = max x 0 := wrap_u64_in _ hu2
      have HU2 := Lib.hid hu2
      have HF := Lib.hid hfin
      generalize putN zs.length ++ ((zs.take k).flatMap fun x => putN x.toNat) = cur at *
      clear hx hcell hc hz hu2 hfin hown'
      go_wp2_with (first | (go_at_call 90; refine (put_any _ _ HU2.out).mono ?_; rintro e w2 ⟨rfl, hb2⟩) | (at_builtin; refine wp_append_str _ rfl (.tmp 17) (.tmp 21) 76 9 rfl w.heap.size 5 i0 Tryd.underlying76 Tryd.underlying9 hi hz0 hz1 hz2 _ _ rfl (hown.below hb2) _ rfl ?c1 ?c2 ?_))
      case c1 => omega
      case c2 => have := hbel.size; have := hb2.size; omega
      intro v' w3 hown3 hgr
      go_wp2
      go_roundw
      case rel =>
        refine ⟨k + 1, by omega, by go_num, ?_, ?_⟩
        · rw [← HF.out]; exact hown3
        · exact (hbel.trans (hb2.mono hbel.size)).grown hgr (by have := hbel.size; have := hb2.size; omega) (fun q hq => (hown.lt q hq).1)
      case measure => simp [intOf]; omega
    · have hcv := OwnB.string (P := Tryd.prog) (src := 76) (dst := 9) Tryd.underlying76 Tryd.underlying5 Tryd.underlying9 hown
      go_wp2
      go_ret
      exact ⟨ret_str (by rw [listN, List.take_of_length_le (by omega)]), hbel⟩
end Go.Proofs.YtkdmnhmlkcejfaaDoor
