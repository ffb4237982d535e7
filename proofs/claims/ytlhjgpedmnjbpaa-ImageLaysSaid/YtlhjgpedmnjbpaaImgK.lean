/-
  image.Lay: packed sectors are laid on a disk, for good.
-/
import Derived.Test.YtlhjgpedmnjbpaaImgJ
namespace Go.Proofs.Ytlhjgpedmnjbpaa
open Go.RowKit
set_option linter.unusedVariables false
set_option linter.unusedSimpArgs false

/-- a sector's bytes of a disk's -/
def chunkB (V : List UInt8) (i : Nat) : ByteArray := ⟨((V.drop (64 * i)).take 64).toArray⟩
/-- the first k sectors, as they are laid -/
def chunksW (V : List UInt8) : Nat → List (Nat × ByteArray)
  | 0 => []
  | k + 1 => chunksW V k ++ [(k, chunkB V k)]
theorem chunksW_len (V : List UInt8) (k : Nat) : (chunksW V k).length = k := by
  induction k with
  | zero => rfl
  | succ k ih => simp [chunksW, ih]
theorem endS_one (L : List (Nat × ByteArray)) : ∀ (j : Nat) (S : List ByteArray), endS (fun _ => 1) j S L = L.foldl (fun S x => S.set x.1 x.2) S := by
  induction L with
  | nil => intro j S; rfl
  | cons x L ih =>
    intro j S
    rw [endS, ih, List.foldl_cons]
    rfl
theorem chunks_at (V : List UInt8) (S : List ByteArray) (k : Nat) (hk : k ≤ S.length) : ((chunksW V k).foldl (fun S x => S.set x.1 x.2) S).length = S.length ∧ ∀ i, i < k → ((chunksW V k).foldl (fun S x => S.set x.1 x.2) S)[i]? = some (chunkB V i) := by
  induction k with
  | zero => exact ⟨rfl, fun i hi => by omega⟩
  | succ k ih =>
    obtain ⟨h1, h2⟩ := ih (by omega)
    rw [chunksW, List.foldl_append]
    simp only [List.foldl_cons, List.foldl_nil]
    refine ⟨by rw [List.length_set]; exact h1, fun i hi => ?_⟩
    rw [List.getElem?_set]
    by_cases h : k = i
    · subst h
      rw [if_pos rfl, if_pos (by rw [h1]; omega)]
    · rw [if_neg h]
      exact h2 i (by omega)
theorem chunk_size (V : List UInt8) (i m : Nat) (h : V.length = 64 * m) (hi : i < m) : (chunkB V i).size = 64 := by
  simp [chunkB, ByteArray.size]
  omega
theorem add_zero (s : ByteArray) (h : s.size = 64) : s ++ zeroL (64 - s.size) = s := by
  rw [h]
  refine str_ext ?_
  simp [zeroL]
def LayPost (w : World) (N p : Nat) (sv lv : Value) (S : List ByteArray) (V : List UInt8) (e : Ending) (w' : World) : Prop :=
  e = .returned (.int .i64 0) ∧ ∃ S', Dsk w' N p sv (.slice none 0 0) S' [] ∧ DKept w w' N p sv lv (.slice none 0 0) ∧ S'.length = S.length ∧ ∀ i, i < S.length → S'[i]? = some (chunkB V i)
theorem ilay_err (p : Option Addr) (l : List UInt8) (w : World) (he : unpE l ≠ 0) : Calls Try.prog 72 #[.pointer p, .string ⟨l.toArray⟩] w fun e w' => e = .returned (.int .i64 (unpE l)) ∧ Below w.heap.size w w' := by
  have cu := iunpack l w
  obtain ⟨E, hE⟩ : ∃ E, unpE l = E := ⟨_, rfl⟩
  obtain ⟨V, hV⟩ : ∃ V, unpV l = V := ⟨_, rfl⟩
  rw [hE, hV] at cu
  rw [hE] at he ⊢
  have t1 : (E != 0) = true := by simpa using he
  have t2 : (E == 0) = false := by simpa using he
  clear hE hV he
  go_enter Try.func72, Try.ntmps72
  go_wp2_with fail
  refine Calls.mono cu ?_
  rintro e w1 ⟨rfl, hb⟩
  have HB := Lib.hid hb
  clear hb cu
  go_wp2_with fail
  go_ret
  exact ⟨rfl, HB.out⟩
theorem ilay_nil (l : List UInt8) (w : World) (he : unpE l = 0) : Calls Try.prog 72 #[.pointer none, .string ⟨l.toArray⟩] w fun e w' => e = .returned (.int .i64 1) ∧ Below w.heap.size w w' := by
  have cu := iunpack l w
  obtain ⟨V, hV⟩ : ∃ V, unpV l = V := ⟨_, rfl⟩
  rw [he, hV] at cu
  clear hV he
  go_enter Try.func72, Try.ntmps72
  go_wp2_with fail
  refine Calls.mono cu ?_
  rintro e w1 ⟨rfl, hb⟩
  have HB := Lib.hid hb
  clear hb cu
  go_wp2_with fail
  refine Calls.mono (dsectors0 _) ?_
  rintro e w2 ⟨rfl, rfl⟩
  go_wp2_with fail
  go_ret
  exact ⟨rfl, HB.out⟩
theorem ilay_other (l : List UInt8) (w : World) (N p : Nat) (sv lv : Value) (S : List ByteArray) (L : List (Nat × ByteArray)) (h : Dsk w N p sv lv S L) (he : unpE l = 0) (hlen : (unpV l).length ≠ 64 * S.length) :
    Calls Try.prog 72 #[.pointer (some ⟨p, 0, none⟩), .string ⟨l.toArray⟩] w fun e w' => e = .returned (.int .i64 1) ∧ Below w.heap.size w w' := by
  have cu := iunpack l w
  have hm := h.most
  have cd := fun w' (hb : Below w.heap.size w w') => dsectors w' N p sv lv S L (h.below hb)
  obtain ⟨V, hV⟩ : ∃ V, unpV l = V := ⟨_, rfl⟩
  obtain ⟨m, hmm⟩ : ∃ m, S.length = m := ⟨_, rfl⟩
  rw [he, hV] at cu
  rw [hV, hmm] at hlen
  rw [hmm] at hm
  simp only [hmm] at cd
  have t1 : ((V.length : Int) == (m : Int) * 64) = false := by
    simp only [beq_eq_false_iff_ne, ne_eq]
    omega
  have t2 : ((V.length : Int) != (m : Int) * 64) = true := by
    simp only [bne_iff_ne, ne_eq]
    omega
  have hm2 : (m : Int) ≤ 4096 := by omega
  clear hV he hmm hlen
  by_cases h0 : m = 0
  · subst h0
    clear t1 t2
    go_enter Try.func72, Try.ntmps72
    go_wp2_with fail
    refine Calls.mono cu ?_
    rintro e w1 ⟨rfl, hb⟩
    have HB := Lib.hid hb
    have c1 := cd _ hb
    clear hb cu
    go_wp2_with fail
    refine Calls.mono c1 ?_
    rintro e w2 ⟨rfl, rfl⟩
    go_wp2_with fail
    go_ret
    exact ⟨rfl, HB.out⟩
  · have h00 : ((m : Int) == 0) = false := by
      simp only [beq_eq_false_iff_ne, ne_eq]
      omega
    clear h0
    go_enter Try.func72, Try.ntmps72
    go_wp2_with fail
    refine Calls.mono cu ?_
    rintro e w1 ⟨rfl, hb⟩
    have HB := Lib.hid hb
    have c1 := cd _ hb
    clear hb cu
    go_wp2_with fail
    refine Calls.mono c1 ?_
    rintro e w2 ⟨rfl, rfl⟩
    go_wp2_with fail
    refine Calls.mono c1 ?_
    rintro e w2 ⟨rfl, rfl⟩
    go_wp2_with fail
    go_ret
    exact ⟨rfl, HB.out⟩
set_option maxHeartbeats 3200000 in
set_option maxRecDepth 100000 in
theorem ilay (l : List UInt8) (w : World) (N p : Nat) (sv lv : Value) (S : List ByteArray) (h : Dsk w N p sv lv S []) (he : unpE l = 0) (hlen : (unpV l).length = 64 * S.length) (h0 : 0 < S.length) :
    Calls Try.prog 72 #[.pointer (some ⟨p, 0, none⟩), .string ⟨l.toArray⟩] w (LayPost w N p sv lv S (unpV l)) := by
  have cu := iunpack l w
  have hm := h.most
  obtain ⟨V, hV⟩ : ∃ V, unpV l = V := ⟨_, rfl⟩
  rw [he, hV] at cu
  rw [hV] at hlen ⊢
  have hca := chunks_at V S S.length (Nat.le_refl _)
  have hcs := fun i (hi : i < S.length) => chunk_size V i S.length hlen hi
  have cd := fun w' lv' L (hd : Dsk w' N p sv lv' S L) => dsectors w' N p sv lv' S L hd
  have cw := fun w' lv' L n s (hd : Dsk w' N p sv lv' S L) => dwrite n s w' N p sv lv' S L hd
  have cy := fun w' lv' L (hd : Dsk w' N p sv lv' S L) => dsync w' N p sv lv' S L hd
  obtain ⟨m, hmm⟩ : ∃ m, S.length = m := ⟨_, rfl⟩
  rw [hmm] at hlen hm h0 hca
  simp only [hmm] at hcs cd cw
  have H := Lib.hid h
  have HM := Lib.hid hmm
  have HCA := Lib.hid hca
  have HCS := Lib.hid hcs
  have hNw := h.le
  have t1 : (V.length : Int) = (m : Int) * 64 := by omega
  have h00 : ((m : Int) == 0) = false := by
    simp only [beq_eq_false_iff_ne, ne_eq]
    omega
  have hm2 : (m : Int) ≤ 4096 := by omega
  have HL := Lib.hid hlen
  clear hV he hmm hca hcs h hlen h0
  go_enter Try.func72, Try.ntmps72
  go_wp2_with fail
  refine Calls.mono cu ?_
  rintro e w1 ⟨rfl, hb⟩
  have hd1 := H.out.below hb
  have HD1 := Lib.hid hd1
  have HK1 := Lib.hid (DKept.of_below (p := p) (sv := sv) (lv := lv) hNw hb)
  have c1 := cd _ _ _ hd1
  clear hb cu hd1 hNw
  go_wp2_with fail
  refine Calls.mono c1 ?_
  rintro e w2 ⟨rfl, rfl⟩
  go_wp2_with fail
  refine Calls.mono c1 ?_
  rintro e w2 ⟨rfl, rfl⟩
  go_wp2_with fail
  refine Calls.mono c1 ?_
  rintro e w2 ⟨rfl, rfl⟩
  obtain ⟨W1, hW1⟩ : ∃ W, w1 = W := ⟨_, rfl⟩
  subst hW1
  clear c1
  go_wp2_with fail
  go_loopw [29] (fun iv wr => ∃ (k : Nat) (lv2 : Value), iv = .int .i64 k ∧ k ≤ m ∧ Dsk wr N p sv lv2 S (chunksW V k) ∧ DKept w wr N p sv lv lv2) (fun iv _ => m - (intOf iv).toNat)
  case atStart => exact ⟨0, lv, rfl, by omega, HD1.out, HK1.out⟩
  case round =>
    obtain ⟨k, lv2, rfl, hk, hd, hkp⟩ := hrel
    have HD := Lib.hid hd
    have HK := Lib.hid hkp
    have hcl := chunksW_len V k
    by_cases hlt : k < m
    · have hki : (k : Int) < (m : Int) := by omega
      have hs64 := HCS.out k hlt
      have hVl := HL.out
      obtain ⟨K, hKe⟩ : ∃ K, 64 * k = K := ⟨_, rfl⟩
      have hkk : (k : Int) * 64 = (K : Int) := by omega
      have hKV : K + 64 ≤ V.length := by omega
      have hKi : (K : Int) ≤ (V.length : Int) := by omega
      have e1 := str_drop V K
      have e2 : ByteArray.extract ⟨(V.drop K).toArray⟩ 0 64 = chunkB V k := by rw [str_take, ← hKe]; rfl
      have hdl : (V.drop K).length = V.length - K := List.length_drop
      obtain ⟨Y, hY⟩ : ∃ Y, V.drop K = Y := ⟨_, rfl⟩
      rw [hY] at e1 e2 hdl
      have hYi : (64 : Int) ≤ (Y.length : Int) := by omega
      have hYn : 64 ≤ Y.length := by omega
      have c := cw wr lv2 _ k (chunkB V k) hd hlt (by omega) (by rw [hcl]; omega)
      rw [add_zero _ hs64] at c
      obtain ⟨C, hC⟩ : ∃ C, chunkB V k = C := ⟨_, rfl⟩
      have hn : chunksW V k ++ [(k, C)] = chunksW V (k + 1) := by rw [← hC]; rfl
      rw [hC, hn] at c
      rw [hC] at e2
      clear hd hkp hcl hs64 hVl hKe hdl hY hC hn
      go_wp2_with fail
      refine Calls.mono c ?_
      rintro e w3 ⟨rfl, v3, hd3, hk3⟩
      have HD3 := Lib.hid hd3
      have HK3 := Lib.hid (HK.out.trans hk3)
      clear hd3 hk3 c
      go_wp2_with fail
      go_roundw
      case rel => exact ⟨k + 1, v3, by go_num, by omega, HD3.out, HK3.out⟩
      case measure => simp [intOf]; omega
    · obtain rfl : k = m := by omega
      have c := cy wr lv2 _ hd (by rw [hcl]; omega)
      clear hd hkp hcl
      go_wp2_with fail
      refine Calls.mono c ?_
      rintro e w3 ⟨rfl, hd3, hk3⟩
      have HD3 := Lib.hid hd3
      have HK3 := Lib.hid (HK.out.trans hk3)
      clear hd3 hk3 c
      go_wp2_with fail
      go_ret
      refine ⟨rfl, _, HD3.out, HK3.out, ?_, ?_⟩
      · rw [syncS, endS_one]
        exact HCA.out.1.trans HM.out.symm
      · intro i hi
        rw [syncS, endS_one]
        exact HCA.out.2 i (by rw [← HM.out]; exact hi)
end Go.Proofs.Ytlhjgpedmnjbpaa
