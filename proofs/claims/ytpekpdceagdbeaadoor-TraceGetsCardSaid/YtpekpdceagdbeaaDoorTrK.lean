/-
  The reference's frames; a frame that is read has just its bytes.
-/
import Derived.Test.YtpekpdceagdbeaaDoorTrI
import Derived.Test.YtpekpdceagdbeaaDoorFrmE
namespace Go.Proofs.YtpekpdceagdbeaaDoor
open Go.RowKit
set_option linter.unusedVariables false
set_option linter.unusedSimpArgs false

theorem rendT (r : RS) (w : World) : Calls Tryd.prog 89 #[rC r] w fun e w' => e = .returned (.int .i64 r.endS.e) ∧ Below w.heap.size w w' := by
  obtain ⟨E, hE⟩ : ∃ E, r.endS.e = E := ⟨_, rfl⟩
  rw [hE]
  have hE' : E = if r.e = 0 ∧ r.s ≠ [] then 3 else r.e := by
    rw [← hE]
    unfold RS.endS
    by_cases h : r.e = 0
    · by_cases k : r.s = [] <;> simp [h, k, RS.fail]
    · by_cases k : r.s = [] <;> simp [h, k, RS.fail]
  have HE := Lib.hid hE'
  clear hE hE'
  obtain ⟨s, er⟩ := r
  unfold rC
  have hx := heap_alloc_self w (.cells #[.string ⟨s.toArray⟩, .int .i64 er] 123)
  have hb : Below w.heap.size w (w.alloc (.cells #[.string ⟨s.toArray⟩, .int .i64 er] 123)) := (Below.refl _ _).alloc (Nat.le_refl _) _
  simp only at HE ⊢
  go_enter Tryd.func89, Tryd.ntmps89
  go_upto_region 1 with fail
  generalize w.alloc (.cells #[.string ⟨s.toArray⟩, .int .i64 er] 123) = w1 at *
  have c0 := cell_at hx 0 (v := .string ⟨s.toArray⟩) rfl
  have c1 := cell_at hx 1 (v := .int .i64 er) rfl
  have HB := Lib.hid hb
  clear hx hb
  by_cases h : er = 0
  · have e0 := HE.out
    subst h
    by_cases k : s = []
    · subst k
      have e1 : E = 0 := by rw [e0]; rfl
      have HE1 := Lib.hid e1
      clear e0 e1
      go_wp2_with fail
      go_ret
      exact ⟨ret_int HE1.out.symm, HB.out⟩
    · have e1 : E = 3 := by rw [e0, if_pos ⟨rfl, k⟩]
      have HE1 := Lib.hid e1
      have hn : s.isEmpty = false := by cases s with | nil => exact absurd rfl k | cons a l => rfl
      clear e0 e1
      go_wp2_with fail
      go_ret
      exact ⟨ret_int HE1.out.symm, HB.out⟩
  · have e1 : E = er := by rw [HE.out, if_neg (fun q => h q.1)]
    have HE1 := Lib.hid e1
    have u1 : (er == 0) = false := by simpa using h
    clear h e1
    go_wp2_with fail
    go_ret
    exact ⟨ret_int HE1.out.symm, HB.out⟩
theorem ROk.endT {r : RS} (h : ROk r) : ROk r.endS := by
  unfold RS.endS
  split
  · exact h
  · exact h.fail _
theorem rget3 (s : List UInt8) (w : World) (hl : s.length ≤ 1000000) : Calls Tryd.prog 46 #[.string ⟨s.toArray⟩] w fun e w' => e = .returned (.tuple #[.string ⟨(getB s).toArray⟩, .int .i64 (getE s)]) ∧ Below w.heap.size w w' := by
  have ct := rtake3 ⟨s, 0⟩ w (.inl rfl) hl
  have ce := fun w' => rendT (⟨s, 0⟩ : RS).frmS w'
  have hE : (⟨s, 0⟩ : RS).frmS.endS.e = getE s := rfl
  rw [hE] at ce
  have hB : getB s = if getE s ≠ 0 then [] else (⟨s, 0⟩ : RS).frmB := rfl
  obtain ⟨T, hT⟩ : ∃ T, (⟨s, 0⟩ : RS).frmB = T := ⟨_, rfl⟩
  obtain ⟨E, hEE⟩ : ∃ E, getE s = E := ⟨_, rfl⟩
  rw [hT] at ct hB
  rw [hEE] at ce hB ⊢
  obtain ⟨⟨ys, ye⟩, hY⟩ : ∃ Y : RS, (⟨s, 0⟩ : RS).frmS = Y := ⟨_, rfl⟩
  rw [hY] at ct ce
  unfold rC at ct ce
  simp only at ct ce
  have HB := Lib.hid hB
  clear hB hE hT hEE hY
  go_enter Tryd.func46, Tryd.ntmps46
  go_wp2_with fail
  refine Calls.mono ct ?_
  rintro e w1 ⟨rfl, hb1⟩
  have hq := heap_alloc_self w1 (.cells #[.string ⟨ys.toArray⟩, .int .i64 ye] 123)
  have hbq := (Below.refl w1.heap.size w1).alloc (Nat.le_refl _) (.cells #[.string ⟨ys.toArray⟩, .int .i64 ye] 123)
  have HB1 := Lib.hid (hb1.trans (hbq.mono hb1.size))
  go_upto_region 2 with fail
  generalize w1.alloc (.cells #[.string ⟨ys.toArray⟩, .int .i64 ye] 123) = w2 at *
  have c0 := cell_at hq 0 (v := .string ⟨ys.toArray⟩) rfl
  have c1 := cell_at hq 1 (v := .int .i64 ye) rfl
  clear hq hbq hb1 ct
  go_wp2_with fail
  refine Calls.mono (ce _) ?_
  rintro e w3 ⟨rfl, hb3⟩
  have HB3 := Lib.hid (HB1.out.trans (hb3.mono HB1.out.size))
  clear hb3 ce c0 c1
  by_cases hE0 : E = 0
  · subst hE0
    have hb := HB.out
    rw [if_neg (by simp)] at hb
    have HBB := Lib.hid hb
    clear hb
    go_wp2_with fail
    go_returns
    exact ⟨by rw [HBB.out]; rfl, HB3.out⟩
  · have hb := HB.out
    rw [if_pos hE0] at hb
    have HBB := Lib.hid hb
    have he : (E != 0) = true := by simpa using hE0
    clear hb hE0
    go_wp2_with fail
    go_returns
    exact ⟨by rw [HBB.out]; rfl, HB3.out⟩
theorem beN_valN : ∀ (n : Nat) (l : List UInt8), l.length = n → beN n (valN l) = l
  | 0, l, h => by rw [List.length_eq_zero_iff.1 h]; rfl
  | n + 1, l, h => by
    obtain ⟨m, c, rfl⟩ : ∃ m c, l = m ++ [c] := ⟨l.dropLast, l.getLast (by intro e; rw [e] at h; simp at h), (List.dropLast_concat_getLast _).symm⟩
    have hm : m.length = n := by simpa using h
    have hc := c.toNat_lt
    rw [beN_snoc, valN_snoc, show (valN m * 256 + c.toNat) / 256 = valN m by omega, beN_valN n m hm]
    congr 2
    apply UInt8.toNat_inj.1
    rw [UInt8.toNat_ofNat']
    omega
/-- a frame that is read has just its bytes -/
theorem frame_canon {s : List UInt8} (h : getE s = 0) : frameB (getB s) = s := by
  have hB : getB s = (⟨s, 0⟩ : RS).frmB := by unfold getB; rw [if_neg (by simp [h])]
  obtain ⟨e1, s1⟩ := end_canon (show (⟨s, 0⟩ : RS).frmS.endS.e = 0 from h)
  have hT : (⟨s, 0⟩ : RS).frmB = (⟨s, 0⟩ : RS).textB 16384 := by unfold RS.frmB; rw [if_neg (by simp [e1])]
  rw [hB, hT]
  unfold RS.frmS at e1 s1
  by_cases hc : (⟨s, 0⟩ : RS).frm2.e = 0 ∧ ((⟨s, 0⟩ : RS).textS 16384).wordV ≠ ofN ((⟨s, 0⟩ : RS).textB 16384)
  · rw [if_pos hc] at e1
    exact absurd e1 (fail_e0 (by decide))
  · rw [if_neg hc] at e1 s1
    have hw : ((⟨s, 0⟩ : RS).textS 16384).wordV = ofN ((⟨s, 0⟩ : RS).textB 16384) := Classical.byContradiction fun q => hc ⟨e1, q⟩
    unfold RS.frm2 at e1 s1
    obtain ⟨e2, s2, l2, -⟩ := take_canon e1
    obtain ⟨e3, s3, l3⟩ := text_canon e2
    have h4 : (((⟨s, 0⟩ : RS).textS 16384).takeB 4).length = 4 := l2
    have h5 := beN_valN 4 _ h4
    unfold RS.wordV at hw
    rw [hw] at h5
    have hl := textB_len (⟨s, 0⟩ : RS)
    unfold frameB
    rw [if_neg (by omega), h5]
    rw [s1, List.append_nil] at s2
    rw [← s2]
    exact s3.symm
end Go.Proofs.YtpekpdceagdbeaaDoor
