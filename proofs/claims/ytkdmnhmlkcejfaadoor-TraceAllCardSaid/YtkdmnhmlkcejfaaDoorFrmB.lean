/-
  frame.Get; there and back; the waking call of layer 3.
-/
import Derived.Test.YtkdmnhmlkcejfaaDoorFrm
import Derived.Handy
namespace Go.Proofs.YtkdmnhmlkcejfaaDoor
open Go.RowKit
set_option linter.unusedVariables false
set_option linter.unusedSimpArgs false

def getE (s : List UInt8) : Int := (⟨s, 0⟩ : RS).frmS.endS.e
def getB (s : List UInt8) : List UInt8 := if getE s ≠ 0 then [] else (⟨s, 0⟩ : RS).frmB
set_option maxHeartbeats 800000 in
theorem fget (s : List UInt8) (w : World) (hT : Tab w) :
    Calls Tryd.prog 79 #[.string ⟨s.toArray⟩] w fun e w' => e = .returned (.tuple #[.string ⟨(getB s).toArray⟩, .int .i64 (getE s)]) ∧ Below w.heap.size w w' := by
  have hy : Src (w.alloc (.cells #[.string ⟨s.toArray⟩, .int .i64 0] 123)) w.heap.size ⟨s, 0⟩ := heap_alloc_self w (.cells #[.string ⟨s.toArray⟩, .int .i64 0] 123)
  have hb0 := (Below.refl w.heap.size w).alloc (Nat.le_refl _) (.cells #[.string ⟨s.toArray⟩, .int .i64 0] 123)
  have hg : 2 ≠ w.heap.size := Nat.ne_of_lt (World.block_lt_of_cell? _ _ (hT 0 (by decide)))
  have hT1 := hT.below hb0
  have ct := ftake w.heap.size ⟨s, 0⟩ _ hy hg hT1
  have HB0 := Lib.hid hb0
  obtain ⟨E, hE⟩ : ∃ E, getE s = E := ⟨_, rfl⟩
  have HE := Lib.hid hE
  clear hy hT hT1 hb0 hE
  go_enter Tryd.func79, Tryd.ntmps79
  go_wp2_with fail
  refine Calls.mono (from_any _ w) ?_
  rintro e w1 ⟨rfl, rfl⟩
  go_wp2_with fail
  refine Calls.mono ct ?_
  rintro e w2 ⟨rfl, hs2, ho2⟩
  have HB2 := Lib.hid (HB0.out.trans (ho2.below (Nat.le_refl _) HB0.out.size))
  have ce := end_src _ _ w2 hs2
  have he : (⟨s, 0⟩ : RS).frmS.endS.e = E := HE.out
  rw [he] at ce
  clear ct hs2 ho2 he
  go_wp2_with fail
  refine Calls.mono ce ?_
  rintro e w3 ⟨rfl, -, ho3⟩
  have HB3 := Lib.hid (HB2.out.trans (ho3.below (Nat.le_refl _) HB2.out.size))
  clear ce ho3
  by_cases h0 : E = 0
  · subst h0
    go_wp2_with fail
    go_returns
    exact ⟨by unfold getB; rw [HE.out]; rfl, HB3.out⟩
  · have h1 : (E != 0) = true := by simpa using h0
    have H0 := Lib.hid h0
    clear h0
    go_wp2_with fail
    go_returns
    exact ⟨by unfold getB; rw [HE.out, if_pos H0.out]; rfl, HB3.out⟩
theorem frm_back {t : List UInt8} (h : t.length ≤ 16384) : (⟨frameB t, 0⟩ : RS).frmB = t ∧ (⟨frameB t, 0⟩ : RS).frmS = ⟨[], 0⟩ := by
  have hf : frameB t = putN t.length ++ t ++ beN 4 (ofN t) := by unfold frameB; rw [if_neg (by omega)]
  obtain ⟨h1, h2⟩ := text_put t (beN 4 (ofN t)) 16384 (by omega) (by omega)
  obtain ⟨h3, h4⟩ := word_put (ofN t) (ofN_le t) []
  rw [List.append_nil] at h3 h4
  have hs : (⟨frameB t, 0⟩ : RS).frmS = ⟨[], 0⟩ := by
    unfold RS.frmS RS.frm2
    rw [hf, h1, h2, h3, h4, if_neg (fun q => q.2 rfl)]
  refine ⟨?_, hs⟩
  unfold RS.frmB
  rw [hs, if_neg (by simp), hf, h1]
theorem get_back {t : List UInt8} (h : t.length ≤ 16384) : getE (frameB t) = 0 ∧ getB (frameB t) = t := by
  obtain ⟨h1, h2⟩ := frm_back h
  have hE : getE (frameB t) = 0 := by unfold getE; rw [h2]; rfl
  refine ⟨hE, ?_⟩
  unfold getB
  rw [hE, if_neg (by simp), h1]
end Go.Proofs.YtkdmnhmlkcejfaaDoor
