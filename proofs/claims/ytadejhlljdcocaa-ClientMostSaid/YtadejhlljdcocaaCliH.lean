/-
  ClientMost's walk.
-/
import Derived.Test.YtadejhlljdcocaaCliG
namespace Go.Proofs.Ytadejhlljdcocaa
open Go.RowKit
open Go.Maps (Keyed)
set_option linter.unusedVariables false
set_option linter.unusedSimpArgs false

theorem filter_len {op : List Int} {k : Int} (hup : op.Pairwise (· < ·)) (hk : k ∈ op) : (op.filter (fun x => x ≠ k)).length + 1 = op.length := by
  have hn : op.Nodup := hup.imp (fun {a b} q e => by omega)
  have e : op.filter (fun x => x ≠ k) = op.erase k := by
    rw [hn.erase_eq_filter]
    congr 1
    funext x
    by_cases h : x = k <;> simp [h]
  rw [e, List.length_erase_of_mem hk]
  have : 0 < op.length := List.length_pos_of_mem hk
  omega
/-- all that were asked are open -/
structure AllOpen (w0 w : World) (N p b : Nat) (i : Nat) (sv : Value) (E : List EV) (op : List Int) : Prop where
  hist : Hist w N p b sv E i op
  el : E.length = i
  ol : op.length = i
  mem : ∀ x : Int, 1 ≤ x → x ≤ i → x ∈ op
  below : Below N w0 w
set_option maxHeartbeats 6400000 in
set_option maxRecDepth 100000 in
theorem clientmost_law (n : Int) (w : World) (hn : (Lit.int .i64 n).wf = true) : Calls Try.prog 11 #[.int .i64 n] w fun e w' => e = .returned (.bool true) ∧ Below w.heap.size w w' := by
  have hmk := mask_mod n 10 1023 (by decide) (by decide)
  obtain ⟨K, hK⟩ : ∃ K, bits .and .i64 n 1023 = K := ⟨_, rfl⟩
  rw [hK] at hmk
  have hK0 : 0 ≤ K ∧ K < 1024 := by omega
  obtain ⟨hK1, hK2⟩ := hK0
  have hw1 : IntKind.i64.wrap (K + 1) = K + 1 := by rw [IntKind.wrap_i64]; omega
  clear hmk
  go_enter Try.func11, Try.ntmps11
  go_wp2_with fail
  refine Calls.mono (cnew _) ?_
  rintro e w1 ⟨p, b, rfl, h1, hb1⟩
  have H1 := Lib.hid (show AllOpen w w1 w.heap.size p b 0 _ [] [] from ⟨h1, rfl, rfl, (fun x h1 h2 => by omega), hb1⟩)
  clear h1 hb1
  go_wp2_with fail
  go_loopw [4] (fun i wr => ∃ (j : Nat) (sv : Value) (E : List EV) (op : List Int), j ≤ 2000 ∧ i = .int .i64 j ∧ Hid (AllOpen w wr w.heap.size p b j sv E op)) (fun i _ => 2000 - (intOf i).toNat)
  case atStart => exact ⟨0, _, [], [], by decide, rfl, H1⟩
  case round =>
    obtain ⟨j, sv, E, op, hj, rfl, HR⟩ := hrel
    clear H1
    by_cases hlt : j < 2000
    · have ca := cask 5 0 0 0 ⟨#[]⟩ false wr w.heap.size p b sv E j op HR.out.hist (by rw [HR.out.el]; exact hlt) (by omega) HR.out.below.size
      go_wp2_with fail
      refine Calls.mono ca ?_
      rintro e w2 ⟨rfl, s2, h2, hk2⟩
      have H2 := Lib.hid (show AllOpen w w2 w.heap.size p b (j + 1) s2 _ _ from ⟨h2, by rw [List.length_append, HR.out.el]; rfl, by rw [List.length_append, HR.out.ol]; rfl, fun x q1 q2 => by
        by_cases hx : x = ((j + 1 : Nat) : Int)
        · rw [hx]; simp
        · exact List.mem_append_left _ (HR.out.mem x q1 (by omega)), HR.out.below.trans (HKept.below HR.out.hist hk2 HR.out.below.size)⟩)
      clear ca h2 hk2
      go_wp2_with fail
      go_roundw
      case rel => exact ⟨j + 1, s2, _, _, by omega, by go_num, H2⟩
      case measure => simp [intOf]; omega
    · obtain rfl : j = 2000 := by omega
      have ct := ctell 5 (K + 1) 0 ⟨#[]⟩ wr w.heap.size p b sv E 2000 op HR.out.hist (wf_of (by omega)) (HR.out.mem _ (by omega) (by omega)) (by have := HR.out.el; omega) HR.out.below.size
      have hz0 : wr.heap.size = wr.heap.size := rfl
      go_wp2_with fail
      refine Calls.mono ct ?_
      rintro e w2 ⟨rfl, s2, h2, hk2⟩
      obtain ⟨E2, hE2⟩ : ∃ E2, E2 = E ++ [⟨true, K + 1, 5, 0, 0, 0, ⟨#[]⟩, false, 0, ⟨#[]⟩⟩] := ⟨_, rfl⟩
      obtain ⟨op2, hop2⟩ : ∃ op2, op2 = op.filter (fun x => x ≠ K + 1) := ⟨_, rfl⟩
      rw [← hE2, ← hop2] at h2
      have hl2 : E2.length = 2001 := by rw [hE2, List.length_append, HR.out.el]; rfl
      have hm2 : op2.length = 1999 := by
        have h := filter_len HR.out.hist.up (HR.out.mem (K + 1) (by omega) (by omega))
        rw [← hop2] at h
        have := HR.out.ol
        omega
      have HL := Lib.hid (And.intro hl2 hm2)
      have H2 := Lib.hid (And.intro h2 (HR.out.below.trans (HKept.below HR.out.hist hk2 HR.out.below.size)))
      clear ct h2 hk2 hE2 hop2 hl2 hm2 HR hlt hz0
      go_wp2_with fail
      refine Calls.mono (cfind_nil n _) ?_
      rintro e w3 ⟨rfl, hb3⟩
      have hb4 := hb3.alloc hb3.size (.cells #[.bool false, .int .i64 0, .int .i64 0, .int .i64 0, .int .i64 0, .int .i64 0, .string ⟨#[]⟩, .bool false, .int .i64 0, .string ⟨#[]⟩] 104)
      have H4 := Lib.hid (And.intro (H2.out.1.below hb4) (H2.out.2.trans (hb4.mono H2.out.2.size)))
      rw [Option.getD_none, evZ, evc]
      simp only [Option.isSome]
      clear hb3 hb4 H2
      go_upto_region 9 with fail
      generalize w3.alloc (.cells #[.bool false, .int .i64 0, .int .i64 0, .int .i64 0, .int .i64 0, .int .i64 0, .string ⟨#[]⟩, .bool false, .int .i64 0, .string ⟨#[]⟩] 104) = w4 at *
      go_wp2_with fail
      refine Calls.mono (awake34 _) ?_
      rintro e w5 ⟨rfl, hb5⟩
      have H5 := Lib.hid (And.intro (H4.out.1.below hb5) (H4.out.2.trans (hb5.mono H4.out.2.size)))
      have ca := cask_full 5 0 0 0 ⟨#[]⟩ false w5 _ p b _ _ _ _ H5.out.1 (by have := HL.out.1; omega)
      clear hb5 H4
      go_wp2_with fail
      refine Calls.mono ca ?_
      rintro e w6 ⟨rfl, hb6⟩
      have H6 := Lib.hid (And.intro (H5.out.1.below hb6) (H5.out.2.trans (hb6.mono H5.out.2.size)))
      have cl := call_ w6 _ p b _ _ _ _ H6.out.1 (by have := HL.out.1; omega)
      rw [HL.out.1] at cl
      clear hb6 ca H5
      go_wp2_with fail
      refine Calls.mono cl ?_
      rintro e w7 ⟨v7, rfl, ho7, hb7⟩
      obtain ⟨a7, k7, rfl, -, -⟩ := (SR.owns ho7).form
      have H7 := Lib.hid (And.intro (H6.out.1.below hb7) (H6.out.2.trans (hb7.mono H6.out.2.size)))
      have co := copen w7 _ p b _ _ _ _ H7.out.1 (by decide)
      rw [HL.out.2] at co
      clear ho7 hb7 cl H6
      go_wp2_with fail
      refine Calls.mono co ?_
      rintro e w8 ⟨v8, rfl, ho8, hb8⟩
      obtain ⟨a8, k8, rfl, -, -⟩ := (SR.owns ho8).form
      have HB8 := Lib.hid (H7.out.2.trans (hb8.mono H7.out.2.size))
      clear ho8 hb8 co H7
      go_wp2_with fail
      refine Calls.mono (cask_nil 5 0 0 0 ⟨#[]⟩ false _) ?_
      rintro e w9 ⟨rfl, hb9⟩
      have HB9 := Lib.hid (HB8.out.trans (hb9.mono HB8.out.size))
      clear hb9 HB8
      go_wp2_with fail
      refine Calls.mono (ctell_nil 5 1 0 ⟨#[]⟩ _) ?_
      rintro e wa ⟨rfl, hba⟩
      have HBA := Lib.hid (HB9.out.trans (hba.mono HB9.out.size))
      clear hba HB9
      go_wp2_with fail
      refine Calls.mono (call_nil _) ?_
      rintro e wb ⟨rfl, hbb⟩
      have HBB := Lib.hid (HBA.out.trans (hbb.mono HBA.out.size))
      clear hbb HBA
      go_wp2_with fail
      refine Calls.mono (copen_nil _) ?_
      rintro e wc ⟨rfl, hbc⟩
      have HBC := Lib.hid (HBB.out.trans (hbc.mono HBB.out.size))
      clear hbc HBB
      go_wp2_with fail
      go_ret
      exact ⟨rfl, HBC.out⟩
end Go.Proofs.Ytadejhlljdcocaa
