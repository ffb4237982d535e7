/-
  image.Of: a disk's sectors as they are read, packed; a disk's bytes.
-/
import Derived.Test.YtlhjgpedmnjbpaaImgI
import Derived.Test.YtlhjgpedmnjbpaaDiskI
namespace Go.Proofs.Ytlhjgpedmnjbpaa
open Go.RowKit
set_option linter.unusedVariables false
set_option linter.unusedSimpArgs false

/-- the bytes of the first k sectors, as they are read -/
def catD (S : List ByteArray) (L : List (Nat × ByteArray)) : Nat → List UInt8
  | 0 => []
  | k + 1 => catD S L k ++ (curD S L k).data.toList
theorem curD_size {w : World} {N p : Nat} {sv lv : Value} {S : List ByteArray} {L : List (Nat × ByteArray)} (h : Dsk w N p sv lv S L) (k : Nat) (hk : k < S.length) : (curD S L k).size = 64 := by
  unfold curD
  split
  · rename_i x hx
    have hm := List.mem_of_find?_eq_some hx
    exact (h.ats x (by simpa using hm)).2
  · rw [List.getD_eq_getElem?_getD, List.getElem?_eq_getElem hk]
    exact h.sizes _ (List.getElem_mem hk)
theorem catD_len (S : List ByteArray) (L : List (Nat × ByteArray)) (k : Nat) (h : ∀ j, j < k → (curD S L j).size = 64) : (catD S L k).length = 64 * k := by
  induction k with
  | zero => rfl
  | succ k ih =>
    have h1 := ih (fun j hj => h j (by omega))
    have h2 : (curD S L k).data.toList.length = 64 := by rw [Array.length_toList]; exact h k (by omega)
    rw [catD, List.length_append, h1, h2]
    omega
/-- a sector's bytes in them -/
theorem catD_at (S : List ByteArray) (L : List (Nat × ByteArray)) (k : Nat) (h : ∀ j, j < k → (curD S L j).size = 64) (i : Nat) (hi : i < k) : ((catD S L k).drop (64 * i)).take 64 = (curD S L i).data.toList := by
  induction k with
  | zero => omega
  | succ k ih =>
    have hl := catD_len S L k (fun j hj => h j (by omega))
    have h2 : (curD S L k).data.toList.length = 64 := by rw [Array.length_toList]; exact h k (by omega)
    rw [catD]
    by_cases hik : i < k
    · rw [List.drop_append_of_le_length (by omega), List.take_append_of_le_length (by rw [List.length_drop]; omega)]
      exact ih (fun j hj => h j (by omega)) hik
    · obtain rfl : i = k := by omega
      rw [← hl, List.drop_left, List.take_of_length_le (by omega)]
set_option maxHeartbeats 3200000 in
set_option maxRecDepth 100000 in
theorem iof (w : World) (N p : Nat) (sv lv : Value) (S : List ByteArray) (L : List (Nat × ByteArray)) (h : Dsk w N p sv lv S L) (hL : L.length ≤ 1000000000) :
    Calls Try.prog 71 #[.pointer (some ⟨p, 0, none⟩)] w fun e w' => e = .returned (.string ⟨(packL [] (catD S L S.length)).toArray⟩) ∧ Below w.heap.size w w' := by
  have hm := h.most
  have hsz := fun k hk => curD_size h k hk
  have hcl : ∀ k, k ≤ S.length → (catD S L k).length = 64 * k := fun k hk => catD_len S L k (fun j hj => hsz j (by omega))
  obtain ⟨m, hmm⟩ : ∃ m, S.length = m := ⟨_, rfl⟩
  have H := Lib.hid h
  have HS := Lib.hid hsz
  have HC := Lib.hid hcl
  have cd := fun w' (hb : Below w.heap.size w w') => dsectors w' N p sv lv S L (h.below hb)
  rw [hmm] at hm
  simp only [hmm] at cd
  have HM := Lib.hid hmm
  have hbt := bfreshB w.heap.size w (Nat.le_refl _)
  have hb0 : Below w.heap.size w (w.alloc (.cells #[.pointer none, .slice none 0 0] 175)) := (Below.refl _ _).alloc (Nat.le_refl _) _
  have HBT := Lib.hid hbt
  have HB0 := Lib.hid hb0
  rw [hmm]
  have hmi : (m : Int) ≤ 4096 := by omega
  have cd0 := cd _ hb0
  clear h hsz hcl hmm hbt hb0 cd
  go_enter Try.func71, Try.ntmps71
  go_wp2_with fail
  refine Calls.mono cd0 ?_
  rintro e w1 ⟨rfl, rfl⟩
  obtain ⟨W, hW⟩ : ∃ W, w.alloc (.cells #[.pointer none, .slice none 0 0] 175) = W := ⟨_, rfl⟩
  rw [hW] at HBT HB0
  rw [hW]
  obtain ⟨n, hn⟩ : ∃ n, w.heap.size = n := ⟨_, rfl⟩
  rw [hn] at HBT HB0
  rw [hn]
  have HNN := Lib.hid hn
  clear hW hn cd0
  go_wp2_with fail
  go_loopw [9] (fun iv wr => ∃ k : Nat, iv = .int .i64 k ∧ k ≤ m ∧ BT n n (catD S L k) wr ∧ Below n w wr ∧ n ≤ wr.heap.size) (fun iv _ => m - (intOf iv).toNat)
  case atStart => exact ⟨0, rfl, by omega, HBT.out, HB0.out, by have := HB0.out.size; rw [HNN.out] at this; exact this⟩
  case round =>
    obtain ⟨k, rfl, hk, hbt, hb, hn⟩ := hrel
    have HT := Lib.hid hbt
    have HB := Lib.hid hb
    clear hbt hb
    by_cases hlt : k < m
    · have hki : (k : Int) < (m : Int) := by omega
      have hb' : Below w.heap.size w wr := by rw [HNN.out]; exact HB.out
      have cr := dread k wr N p sv lv S L (H.out.below hb') (by rw [HM.out]; exact hlt) hL
      have hcs := HS.out k (by rw [HM.out]; exact hlt)
      obtain ⟨C, hC⟩ : ∃ C, curD S L k = C := ⟨_, rfl⟩
      rw [hC] at cr hcs
      have hl := HC.out k (by rw [HM.out]; exact hk)
      have hnext : catD S L k ++ C.data.toList = catD S L (k + 1) := by rw [← hC]; rfl
      have HX := Lib.hid hnext
      clear hb' hC hnext
      go_wp2_with fail
      refine Calls.mono cr ?_
      rintro e w2 ⟨rfl, hb2⟩
      have HT2 := Lib.hid (HT.out.below hb2)
      have HB2 := Lib.hid (HB.out.trans (hb2.mono hn))
      have hn2 : n ≤ w2.heap.size := Nat.le_trans hn hb2.size
      clear hb2 cr
      go_wp2_with fail
      refine Calls.mono (bwriteK n n _ C w2 HT2.out (by rw [hl, hcs]; omega) hn2) ?_
      rintro e w3 ⟨rfl, ht3, hk3⟩
      rw [HX.out] at ht3
      have HT3 := Lib.hid ht3
      have HB3 := Lib.hid (HB2.out.trans hk3.below)
      have hn3 : n ≤ w3.heap.size := Nat.le_trans hn2 hk3.below.size
      clear ht3 hk3
      go_wp2_with fail
      go_roundw
      case rel => exact ⟨k + 1, by go_num, by omega, HT3.out, HB3.out, hn3⟩
      case measure => simp [intOf]; omega
    · obtain rfl : k = m := by omega
      have hl := HC.out k (by rw [HM.out]; exact hk)
      have cp := fun w => ipack ⟨(catD S L k).toArray⟩ (by simp [ByteArray.size, hl]; omega) w
      have cp' : ∀ w, Calls Try.prog 64 #[.string ⟨(catD S L k).toArray⟩] w fun e w' => e = .returned (.string ⟨(packL [] (catD S L k)).toArray⟩) ∧ Below w.heap.size w w' := cp
      have cs := fun w ht hn => bstring n n (catD S L k) w ht hn
      clear cp hl
      obtain ⟨P, hP⟩ : ∃ P, packL [] (catD S L k) = P := ⟨_, rfl⟩
      rw [hP] at cp'
      have HP := Lib.hid hP
      clear hP
      go_wp2_with fail
      refine Calls.mono (cs _ HT.out hn) ?_
      rintro e w2 ⟨rfl, hb2⟩
      have HB2 := Lib.hid (HB.out.trans hb2)
      have hn2 : n ≤ w2.heap.size := Nat.le_trans hn hb2.size
      clear hb2
      go_wp2_with fail
      refine Calls.mono (cp' w2) ?_
      rintro e w3 ⟨rfl, hb3⟩
      have HB3 := Lib.hid (HB2.out.trans (hb3.mono hn2))
      clear hb3
      go_wp2_with fail
      go_ret
      exact ⟨ret_str (by rw [HP.out]), by rw [HNN.out]; exact HB3.out⟩
theorem iof0 (w : World) : Calls Try.prog 71 #[.pointer none] w fun e w' => e = .returned (.string ⟨#[]⟩) ∧ Below w.heap.size w w' := by
  have hbt := bfreshB w.heap.size w (Nat.le_refl _)
  have hb0 : Below w.heap.size w (w.alloc (.cells #[.pointer none, .slice none 0 0] 175)) := (Below.refl _ _).alloc (Nat.le_refl _) _
  have hn1 : w.heap.size ≤ (w.alloc (.cells #[.pointer none, .slice none 0 0] 175)).heap.size := hb0.size
  have cp : ∀ w, Calls Try.prog 64 #[.string ⟨#[]⟩] w fun e w' => e = .returned (.string ⟨#[]⟩) ∧ Below w.heap.size w w' := fun w => ipack ⟨#[]⟩ (by decide) w
  have cs := bstring w.heap.size w.heap.size [] _ hbt hn1
  have HB0 := Lib.hid hb0
  clear hb0 hbt
  go_enter Try.func71, Try.ntmps71
  go_wp2_with fail
  refine Calls.mono (dsectors0 _) ?_
  rintro e w1 ⟨rfl, rfl⟩
  go_wp2_with fail
  refine wp_loop_rounds 1 ?_
  rw [rounds_succ]
  go_wp2_with fail
  refine Calls.mono cs ?_
  rintro e w2 ⟨rfl, hb2⟩
  have HB2 := Lib.hid (HB0.out.trans hb2)
  have hn2 : w.heap.size ≤ w2.heap.size := Nat.le_trans hn1 hb2.size
  clear hb2
  go_wp2_with fail
  refine Calls.mono (cp w2) ?_
  rintro e w3 ⟨rfl, hb3⟩
  have HB3 := Lib.hid (HB2.out.trans (hb3.mono hn2))
  clear hb3
  go_wp2_with fail
  go_ret
  exact ⟨rfl, HB3.out⟩
end Go.Proofs.Ytlhjgpedmnjbpaa
