/-
  Several texts, laid together.
-/
import Derived.Test.YtjaaddjbmimjoaaMh1
import Derived.Test.YtjaaddjbmimjoaaMh4
/-
  What the document says of bytes that are taken (tarnref01.R): Fail, Take, value.
-/



namespace Go.Proofs.Ytjaaddjbmimjoaa
open Go.RowKit
set_option linter.unusedVariables false
set_option linter.unusedSimpArgs false

def rC (r : RS) : Value := .agg #[.string ⟨r.s.toArray⟩, .int .i64 r.e]
/-- behind an error nothing is left -/
def ROk (r : RS) : Prop := r.e = 0 ∨ r.s = []
theorem ROk.fail {r : RS} (h : ROk r) (n : Int) : ROk (r.fail n) := by
  unfold RS.fail
  split
  · exact .inr rfl
  · exact h
theorem ROk.take {r : RS} (h : ROk r) (n : Int) : ROk (r.takeS n) := by
  unfold RS.takeS
  split
  · exact h
  · split
    · exact h.fail 2
    · next h1 _ => exact .inl (by simpa using h1)
theorem cell_at {w : World} {b : Nat} {A : Array Value} {t : TypeId} (h : w.heap[b]? = some (.cells A t)) (i : Nat) {v : Value} (hv : A[i]? = some v) : w.cell? ⟨b, i, none⟩ = some v := by
  simp [World.cell?, h, hv]
theorem two_alloc (w : World) (A B : Array Value) (t : TypeId) : ((w.alloc (.cells A t)).alloc (.cells B t)).heap[w.heap.size]? = some (.cells A t) ∧ ((w.alloc (.cells A t)).alloc (.cells B t)).heap[w.heap.size + 1]? = some (.cells B t) ∧ Below w.heap.size w ((w.alloc (.cells A t)).alloc (.cells B t)) := by
  have h1 := heap_alloc_self w (.cells A t)
  have h2 := heap_alloc_self (w.alloc (.cells A t)) (.cells B t)
  rw [show (w.alloc (.cells A t)).heap.size = w.heap.size + 1 by simp] at h2
  exact ⟨(Below.heap_alloc _ _ _ (lt_heap h1)).trans h1, h2, ((Below.refl _ w).alloc (Nat.le_refl _) _).alloc (by simp) _⟩
theorem set_two {w : World} {b : Nat} {x y u v : Value} {t : TypeId} (h : w.heap[b]? = some (.cells #[x, y] t)) : ((w.setCell ⟨b, 0, none⟩ u).setCell ⟨b, 1, none⟩ v).heap[b]? = some (.cells #[u, v] t) := by
  have h1 := heap_set_self h 0 u
  have h2 := heap_set_self h1 1 v
  simpa using h2
set_option maxHeartbeats 800000 in
theorem rfail (r : RS) (n : Int) (w : World) : Calls Try.prog 58 #[rC r, .int .i64 n] w fun e w' => e = .returned (rC (r.fail n)) ∧ Below w.heap.size w w' := by
  obtain ⟨s, er⟩ := r
  unfold rC
  simp only
  by_cases hc : er = 0 ∧ n ≠ 0
  · have hf : (⟨s, er⟩ : RS).fail n = ⟨[], n⟩ := by unfold RS.fail; rw [if_pos hc]
    rw [hf]
    obtain ⟨rfl, hn⟩ := hc
    obtain ⟨h1, h2, hb⟩ := two_alloc w #[.string ⟨s.toArray⟩, .int .i64 0] #[.string ⟨#[]⟩, .int .i64 0] 35
    have hn1 : (n == 0) = false := by simpa using hn
    have hn2 : (n != 0) = true := by simpa using hn
    clear hf hn
    go_enter Try.func58, Try.ntmps58
    go_upto_region 1 with fail
    generalize (w.alloc (.cells #[.string ⟨s.toArray⟩, .int .i64 0] 35)).alloc (.cells #[.string ⟨#[]⟩, .int .i64 0] 35) = w1 at *
    have c0 := cell_at h1 0 (v := .string ⟨s.toArray⟩) rfl
    have c1 := cell_at h1 1 (v := .int .i64 0) rfl
    have d0 := cell_at h2 0 (v := .string ⟨#[]⟩) rfl
    have d1 := cell_at h2 1 (v := .int .i64 0) rfl
    have HS := Lib.hid (set_two (u := .string ⟨#[]⟩) (v := .int .i64 n) h2)
    have HB := Lib.hid ((hb.setCell (p := ⟨w.heap.size + 1, 0, none⟩) (by show w.heap.size ≤ w.heap.size + 1; omega) (.string ⟨#[]⟩)).setCell (p := ⟨w.heap.size + 1, 1, none⟩) (by show w.heap.size ≤ w.heap.size + 1; omega) (.int .i64 n))
    have f0 : w1.frozen? ⟨w.heap.size + 1, 0, none⟩ = false := by simp [World.frozen?, h2]
    have f1 : w1.frozen? ⟨w.heap.size + 1, 1, none⟩ = false := by simp [World.frozen?, h2]
    clear h1 h2 hb
    go_wp2_with fail
    have s0 := cell_at HS.out 0 (v := .string ⟨#[]⟩) rfl
    have s1 := cell_at HS.out 1 (v := .int .i64 n) rfl
    generalize ((w1.setCell ⟨w.heap.size + 1, 0, none⟩ (.string ⟨#[]⟩)).setCell ⟨w.heap.size + 1, 1, none⟩ (.int .i64 n)) = w2 at *
    refine bodyPost_ret (v := .agg #[.string ⟨#[]⟩, .int .i64 n]) (by simp [results, Try.results58, go_sem, s0, s1]) rfl ?_
    exact ⟨rfl, HB.out⟩
  · have hf : (⟨s, er⟩ : RS).fail n = ⟨s, er⟩ := by unfold RS.fail; rw [if_neg hc]
    rw [hf]
    obtain ⟨h1, h2, hb⟩ := two_alloc w #[.string ⟨s.toArray⟩, .int .i64 er] #[.string ⟨#[]⟩, .int .i64 0] 35
    have hcc : (er == 0 && n != 0) = false := by
      rw [← Bool.not_eq_true]
      intro q
      simp at q
      exact hc ⟨q.1, q.2⟩
    have HCC := Lib.hid hcc
    clear hf hc
    go_enter Try.func58, Try.ntmps58
    go_upto_region 1 with fail
    generalize (w.alloc (.cells #[.string ⟨s.toArray⟩, .int .i64 er] 35)).alloc (.cells #[.string ⟨#[]⟩, .int .i64 0] 35) = w1 at *
    have c0 := cell_at h1 0 (v := .string ⟨s.toArray⟩) rfl
    have c1 := cell_at h1 1 (v := .int .i64 er) rfl
    have d0 := cell_at h2 0 (v := .string ⟨#[]⟩) rfl
    have d1 := cell_at h2 1 (v := .int .i64 0) rfl
    have HS := Lib.hid (set_two (u := .string ⟨s.toArray⟩) (v := .int .i64 er) h2)
    have HB := Lib.hid ((hb.setCell (p := ⟨w.heap.size + 1, 0, none⟩) (by show w.heap.size ≤ w.heap.size + 1; omega) (.string ⟨s.toArray⟩)).setCell (p := ⟨w.heap.size + 1, 1, none⟩) (by show w.heap.size ≤ w.heap.size + 1; omega) (.int .i64 er))
    have f0 : w1.frozen? ⟨w.heap.size + 1, 0, none⟩ = false := by simp [World.frozen?, h2]
    have f1 : w1.frozen? ⟨w.heap.size + 1, 1, none⟩ = false := by simp [World.frozen?, h2]
    clear h1 h2 hb
    have hcs : (er == 0) = false ∨ (er == 0) = true ∧ (n != 0) = false := by
      cases h : er == 0
      · exact .inl rfl
      · rw [h] at hcc
        exact .inr ⟨rfl, by simpa using hcc⟩
    clear hcc
    rcases hcs with he0 | ⟨he0, hn0⟩
    all_goals
      go_wp2_with fail
      have s0 := cell_at HS.out 0 (v := .string ⟨s.toArray⟩) rfl
      have s1 := cell_at HS.out 1 (v := .int .i64 er) rfl
      generalize ((w1.setCell ⟨w.heap.size + 1, 0, none⟩ (.string ⟨s.toArray⟩)).setCell ⟨w.heap.size + 1, 1, none⟩ (.int .i64 er)) = w2 at *
      refine bodyPost_ret (v := .agg #[.string ⟨s.toArray⟩, .int .i64 er]) (by simp [results, Try.results58, go_sem, s0, s1]) rfl ?_
      exact ⟨rfl, HB.out⟩
end Go.Proofs.Ytjaaddjbmimjoaa
/-
  tarnref01.R: Take, value, Word.
-/

namespace Go.Proofs.Ytjaaddjbmimjoaa
open Go.RowKit
set_option linter.unusedVariables false
set_option linter.unusedSimpArgs false

theorem rt_ok {s : List UInt8} {e n : Int} (h : ROk ⟨s, e⟩) (h0 : 0 ≤ n) (h1 : n ≤ s.length) : (⟨s, e⟩ : RS).takeS n = ⟨s.drop n.toNat, e⟩ ∧ (⟨s, e⟩ : RS).takeB n = s.take n.toNat := by
  have hb : ¬ (n < 0 ∨ (s.length : Int) < n) := by omega
  unfold RS.takeS RS.takeB
  simp only
  rcases h with h | h
  · have h : e = 0 := h
    subst h
    rw [if_neg (by simp), if_neg hb, if_neg (by simp), if_neg hb]
    exact ⟨rfl, rfl⟩
  · have h : s = [] := h
    subst h
    by_cases he : e = 0
    · subst he
      rw [if_neg (by simp), if_neg hb, if_neg (by simp), if_neg hb]
      exact ⟨rfl, rfl⟩
    · rw [if_pos he, if_pos he]
      exact ⟨by simp, by simp⟩
theorem rt_bad {s : List UInt8} {e n : Int} (h : n < 0 ∨ (s.length : Int) < n) : (⟨s, e⟩ : RS).takeS n = (⟨s, e⟩ : RS).fail 2 ∧ (⟨s, e⟩ : RS).takeB n = [] := by
  unfold RS.takeS RS.takeB
  simp only
  by_cases he : e = 0
  · subst he
    rw [if_neg (by simp), if_pos h, if_neg (by simp), if_pos h]
    exact ⟨rfl, rfl⟩
  · rw [if_pos he, if_pos he]
    refine ⟨?_, rfl⟩
    unfold RS.fail
    rw [if_neg (fun q => he q.1)]
set_option maxHeartbeats 1600000 in
theorem rtake (r : RS) (n : Int) (w : World) (hok : ROk r) (hl : r.s.length ≤ 1000000) : Calls Try.prog 108 #[rC r, .int .i64 n] w fun e w' => e = .returned (.tuple #[rC (r.takeS n), .string ⟨(r.takeB n).toArray⟩]) ∧ Below w.heap.size w w' := by
  obtain ⟨s, er⟩ := r
  simp only at hl
  unfold rC
  simp only
  obtain ⟨h1, h2, hb⟩ := two_alloc w #[.string ⟨s.toArray⟩, .int .i64 er] #[.string ⟨#[]⟩, .int .i64 0] 35
  by_cases hg : 0 ≤ n ∧ n ≤ s.length
  · obtain ⟨g0, g1⟩ := hg
    obtain ⟨e1, e2⟩ := rt_ok hok g0 g1
    rw [e1, e2]
    simp only
    obtain ⟨m, rfl⟩ : ∃ m : Nat, n = m := ⟨n.toNat, by omega⟩
    rw [Int.toNat_natCast]
    have hm : m ≤ s.length := by omega
    obtain ⟨X, hX⟩ : ∃ X, (⟨s.toArray⟩ : ByteArray) = X := ⟨_, rfl⟩
    have hXs : X.size = s.length := by rw [← hX]; simp [ByteArray.size]
    have hD : (⟨(s.drop m).toArray⟩ : ByteArray) = X.extract m X.size := by rw [hXs, ← hX, str_drop]
    have hT : (⟨(s.take m).toArray⟩ : ByteArray) = X.extract 0 m := by rw [← hX, str_take]
    rw [hD, hT, hX]
    rw [hX] at h1 h2 hb
    have n0 : decide ((m : Int) < 0) = false := decide_eq_false (by omega)
    have n1 : decide ((m : Int) > X.size) = false := decide_eq_false (by omega)
    have n2 : ¬ (m : Int) < 0 := by omega
    have n3 : ¬ (X.size : Int) < m := by omega
    have n4 : (m : Int) ≤ X.size := by omega
    have n5 : (0 : Int) ≤ m := by omega
    have n6 : m ≤ X.size := by omega
    have n7 : ¬ X.size < m := by omega
    clear hD hT e1 e2 hok g0 g1 hX hXs
    go_enter Try.func108, Try.ntmps108
    go_upto_region 1 with fail
    generalize (w.alloc (.cells #[.string X, .int .i64 er] 35)).alloc (.cells #[.string ⟨#[]⟩, .int .i64 0] 35) = w1 at *
    have c0 := cell_at h1 0 (v := .string X) rfl
    have c1 := cell_at h1 1 (v := .int .i64 er) rfl
    have d0 := cell_at h2 0 (v := .string ⟨#[]⟩) rfl
    have d1 := cell_at h2 1 (v := .int .i64 0) rfl
    have HS := Lib.hid (set_two (u := .string (X.extract m X.size)) (v := .int .i64 er) h2)
    have HB := Lib.hid ((hb.setCell (p := ⟨w.heap.size + 1, 0, none⟩) (by show w.heap.size ≤ w.heap.size + 1; omega) (.string (X.extract m X.size))).setCell (p := ⟨w.heap.size + 1, 1, none⟩) (by show w.heap.size ≤ w.heap.size + 1; omega) (.int .i64 er))
    have f0 : w1.frozen? ⟨w.heap.size + 1, 0, none⟩ = false := by simp [World.frozen?, h2]
    have f1 : w1.frozen? ⟨w.heap.size + 1, 1, none⟩ = false := by simp [World.frozen?, h2]
    clear h1 h2 hb
    go_upto_region 3 with fail
    go_region
    all_goals
      go_wp2_with fail
      have s0 : (((w1.setCell ⟨w.heap.size + 1, 0, none⟩ (.string (X.extract m X.size))).setCell ⟨w.heap.size + 1, 1, none⟩ (.int .i64 er)).drew).cell? ⟨w.heap.size + 1, 0, none⟩ = some (.string (X.extract m X.size)) := cell_at HS.out 0 rfl
      have s1 : (((w1.setCell ⟨w.heap.size + 1, 0, none⟩ (.string (X.extract m X.size))).setCell ⟨w.heap.size + 1, 1, none⟩ (.int .i64 er)).drew).cell? ⟨w.heap.size + 1, 1, none⟩ = some (.int .i64 er) := cell_at HS.out 1 rfl
      have HB2 := Lib.hid (below_drew' HB.out)
      generalize ((w1.setCell ⟨w.heap.size + 1, 0, none⟩ (.string (X.extract m X.size))).setCell ⟨w.heap.size + 1, 1, none⟩ (.int .i64 er)).drew = w2 at *
      refine bodyPost_ret (v := .tuple #[.agg #[.string (X.extract m X.size), .int .i64 er], .string (X.extract 0 m)]) (by simp [results, Try.results108, go_sem, s0, s1]) rfl ?_
      exact ⟨rfl, HB2.out⟩
  · have hbad : n < 0 ∨ (s.length : Int) < n := by omega
    obtain ⟨e1, e2⟩ := rt_bad (s := s) (e := er) hbad
    rw [e1, e2]
    have cf := fun w => rfail ⟨s, er⟩ 2 w
    unfold rC at cf
    simp only at cf
    obtain ⟨F, hF⟩ : ∃ F, (⟨s, er⟩ : RS).fail 2 = F := ⟨_, rfl⟩
    rw [hF] at cf ⊢
    have hc : decide (n < 0) = true ∨ decide (n < 0) = false ∧ decide (n > (s.length : Int)) = true := by
      rcases hbad with q | q
      · exact .inl (decide_eq_true q)
      · by_cases h0 : n < 0
        · exact .inl (decide_eq_true h0)
        · exact .inr ⟨decide_eq_false h0, decide_eq_true q⟩
    clear e1 e2 hok hbad hg hF
    go_enter Try.func108, Try.ntmps108
    go_upto_region 1 with fail
    generalize (w.alloc (.cells #[.string ⟨s.toArray⟩, .int .i64 er] 35)).alloc (.cells #[.string ⟨#[]⟩, .int .i64 0] 35) = w1 at *
    have c0 := cell_at h1 0 (v := .string ⟨s.toArray⟩) rfl
    have c1 := cell_at h1 1 (v := .int .i64 er) rfl
    have H2 := Lib.hid (And.intro h2 hb)
    clear h1 h2 hb
    rcases hc with q | ⟨q, q2⟩
    all_goals
      first | (have q3 : n < 0 := by simpa using q) | (have q3 : ¬ n < 0 := by simpa using q)
      try have q4 : (s.length : Int) < n := by simpa using q2
      go_wp2_with fail
      refine Calls.mono (cf _) ?_
      rintro e w2 ⟨rfl, hb2⟩
      have h2 := below_at hb2 (lt_heap H2.out.1) H2.out.1
      have hb := H2.out.2.trans (hb2.mono H2.out.2.size)
      have d0 := cell_at h2 0 (v := .string ⟨#[]⟩) rfl
      have d1 := cell_at h2 1 (v := .int .i64 0) rfl
      have HS := Lib.hid (set_two (u := .string ⟨F.s.toArray⟩) (v := .int .i64 F.e) h2)
      have HB := Lib.hid ((hb.setCell (p := ⟨w.heap.size + 1, 0, none⟩) (by show w.heap.size ≤ w.heap.size + 1; omega) (.string ⟨F.s.toArray⟩)).setCell (p := ⟨w.heap.size + 1, 1, none⟩) (by show w.heap.size ≤ w.heap.size + 1; omega) (.int .i64 F.e))
      have f0 : w2.frozen? ⟨w.heap.size + 1, 0, none⟩ = false := by simp [World.frozen?, h2]
      have f1 : w2.frozen? ⟨w.heap.size + 1, 1, none⟩ = false := by simp [World.frozen?, h2]
      clear h2 hb hb2
      go_wp2_with fail
      have s0 := cell_at HS.out 0 (v := .string ⟨F.s.toArray⟩) rfl
      have s1 := cell_at HS.out 1 (v := .int .i64 F.e) rfl
      generalize ((w2.setCell ⟨w.heap.size + 1, 0, none⟩ (.string ⟨F.s.toArray⟩)).setCell ⟨w.heap.size + 1, 1, none⟩ (.int .i64 F.e)) = w3 at *
      refine bodyPost_ret (v := .tuple #[.agg #[.string ⟨F.s.toArray⟩, .int .i64 F.e], .string ⟨#[]⟩]) (by simp [results, Try.results108, go_sem, s0, s1]) rfl ?_
      exact ⟨rfl, HB.out⟩
end Go.Proofs.Ytjaaddjbmimjoaa
/-
  tarnref01: value; R.Word, Num.
-/

namespace Go.Proofs.Ytjaaddjbmimjoaa
open Go.RowKit
set_option linter.unusedVariables false
set_option linter.unusedSimpArgs false

theorem valN_tk (l : List UInt8) (k : Nat) (h : k ≤ 8) : valN (l.take k) < 18446744073709551616 := by
  have h1 := valN_lt (l.take k)
  have h2 : (l.take k).length ≤ 8 := Nat.le_trans (List.length_take_le _ _) h
  exact Nat.lt_of_lt_of_le h1 (Nat.le_trans (Nat.pow_le_pow_right (by omega) h2) (by decide))
set_option maxHeartbeats 800000 in
theorem rvalue (l : List UInt8) (w : World) (hl : l.length ≤ 8) : Calls Try.prog 109 #[.string ⟨l.toArray⟩] w fun e w' => e = .returned (.int .u64 (valN l : Nat)) ∧ w = w' := by
  go_enter Try.func109, Try.ntmps109
  go_wp2_with fail
  go_loopw [3, 4] (fun n i wr => ∃ k : Nat, k ≤ l.length ∧ i = .int .i64 k ∧ n = .int .u64 (valN (l.take k) : Nat) ∧ wr = w) (fun _ i _ => l.length - (intOf i).toNat)
  case atStart => exact ⟨0, Nat.zero_le _, rfl, rfl, rfl⟩
  case round =>
    obtain ⟨k, hk, rfl, rfl, rfl⟩ := hrel
    by_cases hlt : k < l.length
    · have hix := str_idx l k
      have hto := valN_take l k hlt
      have hbd := valN_tk l (k + 1) (by omega)
      obtain ⟨x, hx⟩ : ∃ x, l.getD k 0 = x := ⟨_, rfl⟩
      rw [hx] at hix hto
      have hxl := x.toNat_lt
      obtain ⟨v, hv⟩ : ∃ v, valN (l.take k) = v := ⟨_, rfl⟩
      rw [hv] at hto ⊢
      rw [hto] at hbd
      have HT := Lib.hid hto
      have hw1 : IntKind.u64.wrap ((v : Int) * 256) = ((v * 256 : Nat) : Int) := by rw [wrap_u64_in _ ⟨by omega, by omega⟩]; simp
      have hw2 : IntKind.u64.wrap (x.toNat : Int) = (x.toNat : Int) := wrap_u64_in _ ⟨by omega, by omega⟩
      have hw3 : IntKind.u64.wrap (((v * 256 : Nat) : Int) + (x.toNat : Int)) = ((v * 256 + x.toNat : Nat) : Int) := by rw [wrap_u64_in _ ⟨by omega, by omega⟩]; simp
      have hw4 : IntKind.u64.wrap ((v : Int) * 256 + (x.toNat : Int)) = ((v * 256 + x.toNat : Nat) : Int) := by rw [wrap_u64_in _ ⟨by omega, by omega⟩]; simp
      clear hto hx hv hbd
      go_wp2
      go_roundw
      case rel => exact ⟨k + 1, by omega, by go_num, by rw [HT.out]; simp, trivial⟩
      case measure => simp [intOf]; omega
    · obtain rfl : k = l.length := by omega
      have hv : valN (l.take l.length) = valN l := by rw [List.take_of_length_le (Nat.le_refl _)]
      rw [hv]
      go_wp2
      go_ret
      exact ⟨rfl, rfl⟩
end Go.Proofs.Ytjaaddjbmimjoaa
