/-
  tarnref01: value; R.Word, Num.
-/
import Derived.Test.YtpekpdceagdbeaaDoorRefB
namespace Go.Proofs.YtpekpdceagdbeaaDoor
open Go.RowKit
set_option linter.unusedVariables false
set_option linter.unusedSimpArgs false

theorem valN_tk (l : List UInt8) (k : Nat) (h : k ≤ 8) : valN (l.take k) < 18446744073709551616 := by
  have h1 := valN_lt (l.take k)
  have h2 : (l.take k).length ≤ 8 := Nat.le_trans (List.length_take_le _ _) h
  exact Nat.lt_of_lt_of_le h1 (Nat.le_trans (Nat.pow_le_pow_right (by omega) h2) (by decide))
set_option maxHeartbeats 800000 in
theorem rvalue (l : List UInt8) (w : World) (hl : l.length ≤ 8) : Calls Tryd.prog 190 #[.string ⟨l.toArray⟩] w fun e w' => e = .returned (.int .u64 (valN l : Nat)) ∧ w = w' := by
  go_enter Tryd.func190, Tryd.ntmps190
  go_wp2_with fail
  go_loopw [3, 4] (fun n i wr => ∃ k : Nat, k ≤ l.length ∧ i = .int .i64 k ∧ n = .int .u64 (valN (l.take k) : Nat) ∧ wr = w) (fun _ i _ => l.length - (intOf i).toNat)
  case atStart => exact ⟨0, Nat.zero_le _, rfl, rfl, rfl⟩
  case round =>
    obtain ⟨k, hk, rfl, rfl, rfl⟩ := hrel
    by_cases hlt : k < l.length
    · have hix := str_idx l k
      have hto := valN_take l k hlt
      have hbd := valN_tk l (k + 1) (by omega)
      obtain ⟨x, hx⟩ : ∃ x, l.getD k 0 = x := ⟨_, rfl⟩
      rw [hx] at hix hto
      have hxl := x.toNat_lt
      obtain ⟨v, hv⟩ : ∃ v, valN (l.take k) = v := ⟨_, rfl⟩
      rw [hv] at hto ⊢
      rw [hto] at hbd
      have HT := Lib.hid hto
      have hw1 : IntKind.u64.wrap ((v : Int) * 256) = ((v * 256 : Nat) : Int) := by rw [wrap_u64_in _ ⟨by omega, by omega⟩]; simp
      have hw2 : IntKind.u64.wrap (x.toNat : Int) = (x.toNat : Int) := wrap_u64_in _ ⟨by omega, by omega⟩
      have hw3 : IntKind.u64.wrap (((v * 256 : Nat) : Int) + (x.toNat : Int)) = ((v * 256 + x.toNat : Nat) : Int) := by rw [wrap_u64_in _ ⟨by omega, by omega⟩]; simp
      have hw4 : IntKind.u64.wrap ((v : Int) * 256 + (x.toNat : Int)) = ((v * 256 + x.toNat : Nat) : Int) := by rw [wrap_u64_in _ ⟨by omega, by omega⟩]; simp
      clear hto hx hv hbd
      go_wp2
      go_roundw
      case rel => exact ⟨k + 1, by omega, by go_num, by rw [HT.out]; simp, trivial⟩
      case measure => simp [intOf]; omega
    · obtain rfl : k = l.length := by omega
      have hv : valN (l.take l.length) = valN l := by rw [List.take_of_length_le (Nat.le_refl _)]
      rw [hv]
      go_wp2
      go_ret
      exact ⟨rfl, rfl⟩
set_option maxHeartbeats 1600000 in
theorem rword (r : RS) (w : World) (hok : ROk r) (hl : r.s.length ≤ 1000000) : Calls Tryd.prog 145 #[rC r] w fun e w' => e = .returned (.tuple #[rC (r.takeS 4), .int .u32 (r.wordV : Nat)]) ∧ Below w.heap.size w w' := by
  have ct := fun w => rtake r 4 w hok hl
  have hlen := takeB_len r 4
  unfold RS.wordV
  obtain ⟨F, hF⟩ : ∃ F, r.takeS 4 = F := ⟨_, rfl⟩
  obtain ⟨X, hX⟩ : ∃ X, r.takeB 4 = X := ⟨_, rfl⟩
  rw [hX] at hlen
  simp only [hF, hX] at ct
  rw [hF, hX]
  have hX4 : X.length ≤ 4 := by simpa using hlen
  have cv := fun w => rvalue X w (by omega)
  have hvl : valN X < 4294967296 := by
    have h1 := valN_lt X
    exact Nat.lt_of_lt_of_le h1 (Nat.le_trans (Nat.pow_le_pow_right (by omega) hX4) (by decide))
  obtain ⟨V, hV⟩ : ∃ V, valN X = V := ⟨_, rfl⟩
  simp only [hV] at cv
  rw [hV] at hvl ⊢
  have hw1 : IntKind.u32.wrap (V : Int) = (V : Int) := by
    have : IntKind.u32.wrap (V : Int) = (V : Int) % 4294967296 := rfl
    rw [this]; omega
  obtain ⟨s, er⟩ := r
  unfold rC at ct ⊢
  simp only at ct ⊢
  obtain ⟨h1, h2, hb⟩ := two_alloc w #[.string ⟨s.toArray⟩, .int .i64 er] #[.string ⟨#[]⟩, .int .i64 0] 123
  clear hF hX hV hlen hok hl
  go_enter Tryd.func145, Tryd.ntmps145
  go_upto_region 1 with fail
  generalize (w.alloc (.cells #[.string ⟨s.toArray⟩, .int .i64 er] 123)).alloc (.cells #[.string ⟨#[]⟩, .int .i64 0] 123) = w1 at *
  have c0 := cell_at h1 0 (v := .string ⟨s.toArray⟩) rfl
  have c1 := cell_at h1 1 (v := .int .i64 er) rfl
  have H2 := Lib.hid (And.intro h2 hb)
  clear h1 h2 hb
  go_wp2_with fail
  refine Calls.mono (ct w1) ?_
  rintro e w2 ⟨rfl, hb2⟩
  have hba := hb2.alloc hb2.size (.cells #[.string ⟨F.s.toArray⟩, .int .i64 F.e] 123)
  have hc := heap_alloc_self w2 (.cells #[.string ⟨F.s.toArray⟩, .int .i64 F.e] 123)
  have h2 := below_at hba (lt_heap H2.out.1) H2.out.1
  have HB := Lib.hid (H2.out.2.trans (hba.mono H2.out.2.size))
  have hne : w.heap.size + 1 ≠ w2.heap.size := by have := lt_heap H2.out.1; have := hb2.size; omega
  clear hb2 hba c0 c1
  go_upto_region 2 with fail
  generalize w2.alloc (.cells #[.string ⟨F.s.toArray⟩, .int .i64 F.e] 123) = w3 at *
  obtain ⟨C, hC⟩ : ∃ C, w2.heap.size = C := ⟨_, rfl⟩
  obtain ⟨B, hB⟩ : ∃ B, w.heap.size + 1 = B := ⟨_, rfl⟩
  have hBB : w.heap.size ≤ B := by omega
  rw [hC] at hc hne
  rw [hB] at h2 hne
  simp only [hC, hB]
  have c0 := cell_at hc 0 (v := .string ⟨F.s.toArray⟩) rfl
  have c1 := cell_at hc 1 (v := .int .i64 F.e) rfl
  have d0 := cell_at h2 0 (v := .string ⟨#[]⟩) rfl
  have d1 := cell_at h2 1 (v := .int .i64 0) rfl
  have HS := Lib.hid (set_two (u := .string ⟨F.s.toArray⟩) (v := .int .i64 F.e) h2)
  have HB2 := Lib.hid (below_drew' ((HB.out.setCell (p := ⟨B, 0, none⟩) hBB (.string ⟨F.s.toArray⟩)).setCell (p := ⟨B, 1, none⟩) hBB (.int .i64 F.e)))
  have f0 : w3.frozen? ⟨B, 0, none⟩ = false := by simp [World.frozen?, h2]
  have f1 : w3.frozen? ⟨B, 1, none⟩ = false := by simp [World.frozen?, h2]
  clear h2 hc hB hC H2 HB
  go_region_with (go_at_call 190; refine Calls.mono (cv _) ?_; rintro e wz ⟨rfl, rfl⟩)
  all_goals
    go_wp2_with fail
    have s0 : (((w3.setCell ⟨B, 0, none⟩ (.string ⟨F.s.toArray⟩)).setCell ⟨B, 1, none⟩ (.int .i64 F.e)).drew).cell? ⟨B, 0, none⟩ = some (.string ⟨F.s.toArray⟩) := cell_at HS.out 0 rfl
    have s1 : (((w3.setCell ⟨B, 0, none⟩ (.string ⟨F.s.toArray⟩)).setCell ⟨B, 1, none⟩ (.int .i64 F.e)).drew).cell? ⟨B, 1, none⟩ = some (.int .i64 F.e) := cell_at HS.out 1 rfl
    generalize ((w3.setCell ⟨B, 0, none⟩ (.string ⟨F.s.toArray⟩)).setCell ⟨B, 1, none⟩ (.int .i64 F.e)).drew = w5 at *
    refine bodyPost_ret (v := .tuple #[.agg #[.string ⟨F.s.toArray⟩, .int .i64 F.e], .int .u32 V]) (by simp [results, Tryd.results145, go_sem, s0, s1]) rfl ?_
    exact ⟨rfl, HB2.out⟩
end Go.Proofs.YtpekpdceagdbeaaDoor
