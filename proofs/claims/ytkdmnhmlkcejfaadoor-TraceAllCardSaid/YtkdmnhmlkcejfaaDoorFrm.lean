/-
  frame.Put, take and Get; what the document says of a frame.
-/
import Derived.Test.YtkdmnhmlkcejfaaDoorCrcC
import Derived.Test.YtkdmnhmlkcejfaaDoorNumM
namespace Go.Proofs.YtkdmnhmlkcejfaaDoor
open Go.RowKit
set_option linter.unusedVariables false
set_option linter.unusedSimpArgs false

theorem Tab.below {w w' : World} (h : Tab w) (hb : Below w.heap.size w w') : Tab w' := fun j hj => by
  have hc := h j hj
  exact (hb.cell (p := ⟨2, j, none⟩) (World.block_lt_of_cell? _ _ hc)).trans hc
theorem ofN_le (l : List UInt8) : ofN l ≤ 4294967295 := by unfold ofN; omega
/-- a frame's bytes -/
def frameB (t : List UInt8) : List UInt8 := if 16384 < t.length then [] else putN t.length ++ t ++ beN 4 (ofN t)
set_option maxHeartbeats 800000 in
theorem fput (t : List UInt8) (w : World) (hl : t.length ≤ 1000000) (hT : Tab w) :
    Calls Tryd.prog 44 #[.string ⟨t.toArray⟩] w fun e w' => e = .returned (.string ⟨(frameB t).toArray⟩) ∧ Below w.heap.size w w' := by
  have HT := Lib.hid hT
  clear hT
  have hpl := putN_length t.length (by omega)
  have hl1 : (putN t.length ++ t).length + 4 ≤ 9223372036854775807 := by rw [List.length_append]; omega
  have hbl := beN_length 4 (ofN t)
  have hl2 : (putN t.length).length + t.length + (beN 4 (ofN t)).length ≤ 9223372036854775807 := by rw [hbl]; omega
  have hl3 : (putN t.length).length + (t.length + (beN 4 (ofN t)).length) ≤ 9223372036854775807 := by rw [hbl]; omega
  by_cases h : 16384 < t.length
  · have hf : frameB t = [] := by unfold frameB; rw [if_pos h]
    rw [hf]
    have h1 : (16384 : Int) < t.length := by omega
    clear hpl hl1 hbl hl2 hl3
    go_enter Tryd.func44, Tryd.ntmps44
    go_wp2_with fail
    go_ret
    exact ⟨rfl, Below.refl _ _⟩
  · have hf : frameB t = putN t.length ++ t ++ beN 4 (ofN t) := by unfold frameB; rw [if_neg h]
    rw [hf]
    have h1 : ¬ (16384 : Int) < t.length := by omega
    have ho := ofN_le t
    clear hpl
    go_enter Tryd.func44, Tryd.ntmps44
    go_wp2_with fail
    refine Calls.mono (text_any t _ (by omega)) ?_
    rintro e w1 ⟨rfl, hb1⟩
    have HT1 := Lib.hid (HT.out.below hb1)
    have HB1 := Lib.hid hb1
    clear hb1
    go_wp2_with fail
    refine Calls.mono (of_any t w1 (by omega) HT1.out) ?_
    rintro e w2 ⟨rfl, rfl⟩
    have cw := word_any (ofN t : Nat) w1 (by omega) (by omega)
    rw [Int.toNat_natCast] at cw
    go_wp2_with fail
    refine Calls.mono cw ?_
    rintro e w3 ⟨rfl, hb3⟩
    have HB3 := Lib.hid (HB1.out.trans (hb3.mono HB1.out.size))
    clear hb3 cw
    go_wp2_with fail
    go_ret
    exact ⟨ret_str (str_append _ _), HB3.out⟩
set_option maxHeartbeats 800000 in
theorem rput3 (t : List UInt8) (w : World) (hl : t.length ≤ 1000000) :
    Calls Tryd.prog 38 #[.string ⟨t.toArray⟩] w fun e w' => e = .returned (.string ⟨(frameB t).toArray⟩) ∧ Below w.heap.size w w' := by
  have hpl := putN_length t.length (by omega)
  have hl1 : (putN t.length ++ t).length + 4 ≤ 9223372036854775807 := by rw [List.length_append]; omega
  have hbl := beN_length 4 (ofN t)
  have hl2 : (putN t.length).length + t.length + (beN 4 (ofN t)).length ≤ 9223372036854775807 := by rw [hbl]; omega
  have hl3 : (putN t.length).length + (t.length + (beN 4 (ofN t)).length) ≤ 9223372036854775807 := by rw [hbl]; omega
  by_cases h : 16384 < t.length
  · have hf : frameB t = [] := by unfold frameB; rw [if_pos h]
    rw [hf]
    have h1 : (16384 : Int) < t.length := by omega
    clear hpl hl1 hbl hl2 hl3
    go_enter Tryd.func38, Tryd.ntmps38
    go_wp2_with fail
    go_ret
    exact ⟨rfl, Below.refl _ _⟩
  · have hf : frameB t = putN t.length ++ t ++ beN 4 (ofN t) := by unfold frameB; rw [if_neg h]
    rw [hf]
    have h1 : ¬ (16384 : Int) < t.length := by omega
    have ho := ofN_le t
    clear hpl
    go_enter Tryd.func38, Tryd.ntmps38
    go_wp2_with fail
    refine Calls.mono (reftext_any t _ (by omega)) ?_
    rintro e w1 ⟨rfl, hb1⟩
    have HB1 := Lib.hid hb1
    clear hb1
    go_wp2_with fail
    refine Calls.mono (refof_any t w1 (by omega)) ?_
    rintro e w2 ⟨rfl, rfl⟩
    have cw := refword_any (ofN t : Nat) w1 (by omega) (by omega)
    rw [Int.toNat_natCast] at cw
    go_wp2_with fail
    refine Calls.mono cw ?_
    rintro e w3 ⟨rfl, hb3⟩
    have HB3 := Lib.hid (HB1.out.trans (hb3.mono HB1.out.size))
    clear hb3 cw
    go_wp2_with fail
    go_ret
    exact ⟨ret_str (str_append _ _), HB3.out⟩
/-- behind a frame's bytes and check -/
def RS.frm2 (r : RS) : RS := (r.textS 16384).takeS 4
def RS.frmS (r : RS) : RS := if r.frm2.e = 0 ∧ (r.textS 16384).wordV ≠ ofN (r.textB 16384) then r.frm2.fail 30 else r.frm2
def RS.frmB (r : RS) : List UInt8 := if r.frmS.e ≠ 0 then [] else r.textB 16384
theorem textB_len (r : RS) : (r.textB 16384).length ≤ 16384 := by
  unfold RS.textB
  refine Nat.le_trans (takeB_len _ _) ?_
  have := numV_le r (min (16384 : Int) 65536).toNat
  simp at this ⊢
  omega
theorem Tab.only {w w' : World} {b : Nat} (h : Tab w) (hb : 2 ≠ b) (ho : Only b w w') : Tab w' := fun j hj => by
  have hc := h j hj
  have e := ho.block 2 (World.block_lt_of_cell? _ _ hc) hb
  simp only [World.cell?] at hc ⊢
  rw [e]
  exact hc
set_option maxHeartbeats 1600000 in
theorem ftake (b : Nat) (r : RS) (w : World) (h : Src w b r) (hb : 2 ≠ b) (hT : Tab w) :
    Calls Tryd.prog 70 #[.pointer (some ⟨b, 0, none⟩)] w fun e w' => e = .returned (.string ⟨r.frmB.toArray⟩) ∧ Src w' b r.frmS ∧ Only b w w' := by
  have H := Lib.hid h
  have HT := Lib.hid hT
  have hlen := textB_len r
  clear h hT
  go_enter Tryd.func70, Tryd.ntmps70
  go_wp2_with fail
  refine Calls.mono (text_src b r 16384 w H.out) ?_
  rintro e w1 ⟨rfl, hs1, ho1⟩
  have HS1 := Lib.hid hs1
  have HO1 := Lib.hid ho1
  clear hs1 ho1
  go_wp2_with fail
  refine Calls.mono (sword_src b _ w1 HS1.out) ?_
  rintro e w2 ⟨rfl, hs2, ho2⟩
  have HS2 := Lib.hid (show Src w2 b r.frm2 from hs2)
  have HO2 := Lib.hid (HO1.out.trans ho2)
  have hc := HS2.out.c1
  clear hs2 ho2
  go_wp2_with fail
  refine Calls.mono (err_some b _ w2 hc) ?_
  rintro e w3 ⟨rfl, rfl⟩
  obtain ⟨ER, hER⟩ : ∃ E, r.frm2.e = E := ⟨_, rfl⟩
  rw [hER] at hc ⊢
  by_cases he : ER = 0
  · subst he
    have ct := of_any (r.textB 16384) w2 (by omega) (HT.out.only hb HO2.out)
    obtain ⟨V, hV⟩ : ∃ V, (r.textS 16384).wordV = V := ⟨_, rfl⟩
    obtain ⟨O, hO⟩ : ∃ O, ofN (r.textB 16384) = O := ⟨_, rfl⟩
    rw [hO] at ct
    rw [hV]
    by_cases hvo : V = O
    · have hn : ((V : Int) != O) = false := by simp [hvo]
      have hn2 : (V != O) = false := by simp [hvo]
      have HF := Lib.hid (show r.frmS = r.frm2 by unfold RS.frmS; rw [if_neg (by rw [hV, hO]; exact fun q => q.2 hvo)])
      clear hvo
      go_wp2_with fail
      refine Calls.mono ct ?_
      rintro e w4 ⟨rfl, rfl⟩
      go_wp2_with fail
      refine Calls.mono (err_some b _ w2 hc) ?_
      rintro e w4 ⟨rfl, rfl⟩
      go_wp2_with fail
      go_ret
      exact ⟨by unfold RS.frmB; rw [HF.out, hER, if_neg (by simp)]; rfl, by rw [HF.out]; exact HS2.out, HO2.out⟩
    · have hn : ((V : Int) != O) = true := by simp; omega
      have hn2 : (V != O) = true := by simpa using hvo
      have HF := Lib.hid (show r.frmS = r.frm2.fail 30 by unfold RS.frmS; rw [if_pos ⟨hER, by rw [hV, hO]; exact hvo⟩])
      have HFE := Lib.hid (show (r.frm2.fail 30).e = 30 by unfold RS.fail; rw [if_pos ⟨hER, by decide⟩])
      have cw := wrong_src b _ 30 w2 HS2.out
      clear hvo
      go_wp2_with fail
      refine Calls.mono ct ?_
      rintro e w4 ⟨rfl, rfl⟩
      go_wp2_with fail
      refine Calls.mono cw ?_
      rintro e w4 ⟨rfl, hs4, ho4⟩
      have hc4 := hs4.c1
      rw [HFE.out] at hc4
      have HS4 := Lib.hid hs4
      have HO4 := Lib.hid (HO2.out.trans ho4)
      clear hs4 ho4 cw ct
      go_wp2_with fail
      refine Calls.mono (err_some b _ w4 hc4) ?_
      rintro e w5 ⟨rfl, rfl⟩
      go_wp2_with fail
      go_ret
      exact ⟨by unfold RS.frmB; rw [HF.out, HFE.out, if_pos (by decide)]; rfl, by rw [HF.out]; exact HS4.out, HO4.out⟩
  · have hn : (ER == 0) = false := by simpa using he
    have hn2 : (ER != 0) = true := by simpa using he
    have HF := Lib.hid (show r.frmS = r.frm2 by unfold RS.frmS; rw [if_neg (by rw [hER]; exact fun q => he q.1)])
    have HE := Lib.hid he
    clear he
    go_wp2_with fail
    refine Calls.mono (err_some b _ w2 hc) ?_
    rintro e w4 ⟨rfl, rfl⟩
    go_wp2_with fail
    go_ret
    exact ⟨by unfold RS.frmB; rw [HF.out, hER, if_pos HE.out]; rfl, by rw [HF.out]; exact HS2.out, HO2.out⟩
end Go.Proofs.YtkdmnhmlkcejfaaDoor
