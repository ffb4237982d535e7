/-
  Several texts, laid together.
-/
import Derived.Test.YtjaaddjbmimjoaaMh3
/-
  The contracts of a source's Int, Text, Word, Bool, End, also of no source.
-/

namespace Go.Proofs.Ytjaaddjbmimjoaa
open Go.RowKit
set_option linter.unusedVariables false

theorem int_src (b : Nat) (r : RS) (n : Int) (w : World) (hn : n ≤ 9223372036854775807) (h : Src w b r) :
    Calls Try.prog 52 #[.pointer (some ⟨b, 0, none⟩), .int .i64 n] w fun e w' => e = .returned (.int .i64 (r.numV n.toNat)) ∧ Src w' b (r.numS n.toNat) ∧ Only b w w' := by
  have hu : U64 (max n 0) := ⟨by omega, by omega⟩
  have hwr : IntKind.u64.wrap (max n 0) = max n 0 := wrap_u64_in _ hu
  have hle := numV_le r n.toNat
  have HM := Lib.hid (show (max n 0).toNat = n.toNat by omega)
  have H := Lib.hid h
  have HU := Lib.hid hu
  clear h hu
  go_enter Try.func52, Try.ntmps52
  go_wp2_with (go_at_call 82; refine (num_src b r _ _ HU.out H.out).mono ?_; rw [HM.out]; rintro e w' ⟨rfl, hs, ho⟩)
  all_goals go_ret
  all_goals exact ⟨rfl, hs, ho⟩

end Go.Proofs.Ytjaaddjbmimjoaa
/-
  The contracts of a source's Word and List.
-/

namespace Go.Proofs.Ytjaaddjbmimjoaa
open Go.RowKit
set_option linter.unusedVariables false

/-- so many Ints, up to the first error -/
def intsR (q : RS) (limit : Nat) : Nat → RS × List Int
  | 0 => (q, [])
  | k + 1 => if (intsR q limit k).1.e ≠ 0 then intsR q limit k else ((intsR q limit k).1.numS limit, (intsR q limit k).2 ++ [((intsR q limit k).1.numV limit : Int)])
def RS.listS (r : RS) (many limit : Int) : RS := (intsR (r.numS many.toNat) limit.toNat (r.numV many.toNat)).1
def RS.listV (r : RS) (many limit : Int) : List Int := if (r.listS many limit).e ≠ 0 then [] else (intsR (r.numS many.toNat) limit.toNat (r.numV many.toNat)).2
theorem intsR_len (q : RS) (limit k : Nat) : (intsR q limit k).2.length ≤ k := by
  induction k with
  | zero => simp [intsR]
  | succ k ih =>
    rw [intsR]
    split
    · omega
    · simp; omega
theorem intsR_stop (q : RS) (limit k n : Nat) (h : (intsR q limit k).1.e ≠ 0) (hk : k ≤ n) : intsR q limit n = intsR q limit k := by
  induction n with
  | zero => obtain rfl : k = 0 := by omega
            rfl
  | succ n ih =>
    by_cases e : k = n + 1
    · subst e; rfl
    · rw [intsR, ih (by omega), if_pos h]
theorem info_int : (Try.prog.info? 3).map (fun i => (i.zero, i.size, i.bytes)) = some (some (.int .i64 0), 1, 8) := by kernel_rfl
def iCells (l : List Int) : List Value := l.map (Value.int .i64)
def ListPost (b : Nat) (r : RS) (many limit : Int) (w : World) (e : Ending) (w' : World) : Prop :=
  ∃ v, e = .returned v ∧ w'.ownsRow w.heap.size 3 1 v (r.listV many limit).length (iCells (r.listV many limit)) ∧ Src w' b (r.listS many limit) ∧ Only b w w'
set_option maxHeartbeats 1600000 in
set_option maxRecDepth 100000 in
theorem slist_src (b : Nat) (r : RS) (many limit : Int) (w : World) (hn : many ≤ 1000000) (hl : limit ≤ 9223372036854775807) (h : Src w b r) :
    Calls Try.prog 60 #[.pointer (some ⟨b, 0, none⟩), .int .i64 many, .int .i64 limit] w (ListPost b r many limit w) := by
  obtain ⟨i0, hi, hz0, hz1, hz2⟩ := info_parts info_int
  have H := Lib.hid h
  have hb := h.lt
  have hnv := numV_le r many.toNat
  clear h
  go_enter Try.func60, Try.ntmps60
  go_wp2_with fail
  refine (int_src b r _ _ (by omega) H.out).mono ?_
  rintro e w1 ⟨rfl, hs, ho⟩
  obtain ⟨q, hq⟩ : ∃ p, r.numS many.toNat = p := ⟨_, rfl⟩
  obtain ⟨m, hm⟩ : ∃ p, r.numV many.toNat = p := ⟨_, rfl⟩
  rw [hq] at hs
  rw [hm] at hnv ⊢
  have HQ := Lib.hid hq
  have HM := Lib.hid hm
  have HS := Lib.hid hs
  have hsz := ho.size
  have HO := Lib.hid ho
  clear hq hm hs ho
  go_wp2_with fail
  go_loopw [8, 9] (fun v i wr => ∃ k : Nat, k ≤ m ∧ i = .int .i64 k ∧ wr.ownsRow w.heap.size 3 1 v (intsR q limit.toNat k).2.length (iCells (intsR q limit.toNat k).2) ∧ Src wr b (intsR q limit.toNat k).1 ∧ Only b w wr) (fun _ i _ => m - (intOf i).toNat)
  case atStart => exact ⟨0, Nat.zero_le _, rfl, World.ownsRow_nil _ _ _ _, HS.out, HO.out⟩
  case round =>
    obtain ⟨k, hk, rfl, hown, hsr, hor⟩ := hrel
    obtain ⟨p, hp⟩ : ∃ p, (intsR q limit.toNat k).1 = p := ⟨_, rfl⟩
    obtain ⟨l, hll⟩ : ∃ p, (intsR q limit.toNat k).2 = p := ⟨_, rfl⟩
    have hlk := intsR_len q limit.toNat k
    rw [hp] at hsr
    rw [hll] at hown hlk
    have HP := Lib.hid hp
    have HLL := Lib.hid hll
    have h1 := hsr.c1
    have HSR := Lib.hid hsr
    have hszr := hor.size
    clear hp hll hsr
    by_cases hlt : k < m
    · have hlt' : (k : Int) < (m : Int) := by omega
      by_cases he : p.e = 0
      · have hS : (intsR q limit.toNat (k + 1)).1 = p.numS limit.toNat := by rw [intsR, HP.out, if_neg (by simpa using he)]
        have hL : (intsR q limit.toNat (k + 1)).2 = l ++ [(p.numV limit.toNat : Int)] := by rw [intsR, HP.out, if_neg (by simpa using he), HLL.out]
        rw [he] at h1
        have HS1 := Lib.hid hS
        have HL1 := Lib.hid hL
        clear he hS hL
        go_wp2_with (go_at_call 13; refine (err_some _ _ _ h1).mono ?_; rintro e w' ⟨rfl, rfl⟩)
        refine (int_src b p limit _ hl HSR.out).mono ?_
        rintro e w3 ⟨rfl, hs3, ho3⟩
        have hown3 := owns_kept hown ho3 hb
        have HS3 := Lib.hid hs3
        have hsz3 := ho3.size
        have HO3 := Lib.hid ho3
        clear hs3 ho3 hown
        go_wp2_with (at_builtin; refine wpList_append_own _ rfl (.tmp 23) (.tmp 27) 22 rfl w.heap.size 3 i0 (.int .i64 0) 1 8 Try.underlying22 hi hz0 hz1 hz2 rfl (by decide) _ _ _ rfl (hown3.alloc _) ⟨w3.heap.size, 0, none⟩ 1 1 [.int .i64 (p.numV limit.toNat)] rfl rfl ?c1 ?c2 ?c3 ?c4 ?c5 ?_)
        case c1 => exact (cell_one_new _ _ _)
        case c2 => intro u hu; simp at hu; subst hu; rfl
        case c3 => unfold maxLen; omega
        case c4 => omega
        case c5 => simp; omega
        intro v' w4 hown4 hgr _
        have HG := Lib.hid hgr
        have HW4 := Lib.hid hown4
        clear hgr hown4
        go_wp2
        go_roundw
        case rel =>
          refine ⟨k + 1, by omega, by go_num, ?_, ?_, ?_⟩
          · rw [HL1.out]
            have := HW4.out
            simpa [iCells] using this
          · rw [HS1.out]
            have hsb := HS3.out
            unfold Src at hsb ⊢
            rw [HG.out.block b (by simp; omega) (fun e => by have := (hown3.lt b e.symm).1; omega), Below.heap_alloc _ _ _ (by omega)]
            exact hsb
          · exact ((hor.trans HO3.out).alloc _).grown HG.out (fun z hz => (hown3.lt z hz).1)
        case measure => simp [intOf]; omega
      · have heb : (p.e != 0) = true := by simpa using he
        have heb' : (p.e == 0) = false := by simpa using he
        have hst : intsR q limit.toNat m = intsR q limit.toNat k := intsR_stop q limit.toNat k m (by rw [HP.out]; exact he) (by omega)
        have hlS : r.listS many limit = p := by rw [RS.listS, HQ.out, HM.out, hst, HP.out]
        have hlV : r.listV many limit = [] := by rw [RS.listV, hlS, if_pos he]
        have HA := Lib.hid hlS
        have HB := Lib.hid hlV
        clear he hst hlS hlV
        go_wp2_with (go_at_call 13; refine (err_some _ _ _ h1).mono ?_; rintro e w' ⟨rfl, rfl⟩)
        go_ret
        exact ⟨_, rfl, by rw [HB.out]; exact World.ownsRow_nil _ _ _ _, by rw [HA.out]; exact HSR.out, hor⟩
    · have hkm : k = m := by omega
      subst hkm
      have hlS : r.listS many limit = p := by rw [RS.listS, HQ.out, HM.out, HP.out]
      have HA := Lib.hid hlS
      clear hlS
      by_cases he : p.e = 0
      · have hlV : r.listV many limit = l := by rw [RS.listV, HA.out, if_neg (by simpa using he), HQ.out, HM.out, HLL.out]
        have HB := Lib.hid hlV
        rw [he] at h1
        clear he hlV
        go_wp2_with (go_at_call 13; refine (err_some _ _ _ h1).mono ?_; rintro e w' ⟨rfl, rfl⟩)
        go_ret
        exact ⟨_, rfl, by rw [HB.out]; exact hown, by rw [HA.out]; exact HSR.out, hor⟩
      · have heb : (p.e != 0) = true := by simpa using he
        have hlV : r.listV many limit = [] := by rw [RS.listV, HA.out, if_pos he]
        have HB := Lib.hid hlV
        clear he hlV
        go_wp2_with (go_at_call 13; refine (err_some _ _ _ h1).mono ?_; rintro e w' ⟨rfl, rfl⟩)
        go_ret
        exact ⟨_, rfl, by rw [HB.out]; exact World.ownsRow_nil _ _ _ _, by rw [HA.out]; exact HSR.out, hor⟩
end Go.Proofs.Ytjaaddjbmimjoaa
/-
  The contract of the document's own List.
-/

namespace Go.Proofs.Ytjaaddjbmimjoaa
open Go.RowKit
set_option linter.unusedVariables false

set_option maxHeartbeats 800000 in
set_option maxRecDepth 100000 in
theorem reflist_any (v : Value) (zs : List Int) (w : World) (hv : Ints w v zs) (hn : zs.length ≤ 1000) (hz : ∀ x ∈ zs, x ≤ 9223372036854775807) :
    Calls Try.prog 59 #[v] w fun e w' => e = .returned (.string ⟨(listN zs).toArray⟩) ∧ Below w.heap.size w w' := by
  obtain ⟨a, cap, rfl, hm, hc⟩ := hv
  have hu : U64 (zs.length : Int) := ⟨by omega, by omega⟩
  have HU := Lib.hid hu
  clear hu
  go_enter Try.func59, Try.ntmps59
  go_wp2_with (go_at_call 50; refine (refput_any _ _ HU.out).mono ?_; rintro e w1 ⟨rfl, hbw⟩)
  go_loopw [3, 4] (fun v i wr => ∃ k : Nat, k ≤ zs.length ∧ i = .int .i64 k ∧ v = .string ⟨(putN zs.length ++ (zs.take k).flatMap fun x => putN x.toNat).toArray⟩ ∧ Below w.heap.size w wr) (fun _ i _ => zs.length - (intOf i).toNat)
  case atStart => exact ⟨0, Nat.zero_le _, rfl, by simp, hbw⟩
  case round =>
    obtain ⟨k, hk, rfl, rfl, hbel⟩ := hrel
    by_cases hlt : k < zs.length
    · obtain ⟨b, off, rfl, hb0, hcell⟩ : ∃ b off, a = some ⟨b, off, none⟩ ∧ b < w.heap.size ∧ ∀ j, j < zs.length → w.cell? ⟨b, off + j, none⟩ = some (.int .i64 (zs.getD j 0)) := by
        rcases hc with rfl | h
        · simp at hlt
        · exact h
      have hck : wr.cell? ⟨b, off + k, none⟩ = some (.int .i64 (zs.getD k 0)) := by rw [hbel.cell hb0]; exact hcell k hlt
      have hgt : zs.getD k 0 ≤ 9223372036854775807 := by rw [List.getD, List.getElem?_eq_getElem hlt]; exact hz _ (List.getElem_mem hlt)
      obtain ⟨x, hx⟩ : ∃ x, zs.getD k 0 = x := ⟨_, rfl⟩
      have hfin : putN zs.length ++ ((zs.take k).flatMap fun x => putN x.toNat) ++ putN x.toNat = putN zs.length ++ (zs.take (k + 1)).flatMap fun x => putN x.toNat := by
        rw [← listN_snoc zs.length zs k hlt, hx]
      have hlen : (putN zs.length ++ ((zs.take k).flatMap fun x => putN x.toNat)).length ≤ 10000 := by
        have h1 := putN_length zs.length (by omega)
        have h2 := flat_len (zs.take k) (fun y hy => hz y (List.mem_of_mem_take hy))
        have h3 : (zs.take k).length ≤ k := List.length_take_le _ _
        rw [List.length_append]; omega
      rw [hx] at hck hgt
      have hlen2 := putN_length x.toNat (by omega)
      have HF := Lib.hid hfin
      have H0 := Lib.hid (show putN (0 : Int).toNat = putN 0 from rfl)
      have hp0 : (putN 0).length ≤ 9 := putN_length 0 (by omega)
      generalize putN zs.length ++ ((zs.take k).flatMap fun x => putN x.toNat) = cur at *
      clear hx hcell hc hz hfin
      by_cases hneg : x < 0
      · have hx0 : x.toNat = 0 := by omega
        have HX := Lib.hid hx0
        have hsum : cur.length + (putN 0).length ≤ 9223372036854775807 := by omega
        clear hx0
        go_wp2_with (go_at_call 50; refine (refput_any 0 _ ⟨by omega, by omega⟩).mono ?_; rintro e w2 ⟨rfl, hb2⟩)
        go_roundw
        case rel =>
          refine ⟨k + 1, by omega, by go_num, ?_, hbel.trans (hb2.mono hbel.size)⟩
          rw [← HF.out, HX.out]
          exact congrArg Value.string (str_append _ _)
        case measure => simp [intOf]; omega
      · have hu2 : U64 x := ⟨by omega, by omega⟩
        have HU2 := Lib.hid hu2
        have hx0 : 0 ≤ x := by omega
        have hsum : cur.length + (putN x.toNat).length ≤ 9223372036854775807 := by omega
        clear hu2
        go_wp2_with (go_at_call 50; refine (refput_any x _ HU2.out).mono ?_; rintro e w2 ⟨rfl, hb2⟩)
        go_roundw
        case rel =>
          refine ⟨k + 1, by omega, by go_num, ?_, hbel.trans (hb2.mono hbel.size)⟩
          rw [← HF.out]
          exact congrArg Value.string (str_append _ _)
        case measure => simp [intOf]; omega
    · go_wp2
      go_ret
      exact ⟨ret_str (by rw [listN, List.take_of_length_le (by omega)]), hbel⟩
end Go.Proofs.Ytjaaddjbmimjoaa
/-
  NumPuts' walk.
-/


namespace Go.Proofs.Ytjaaddjbmimjoaa
open Go.RowKit
set_option linter.unusedVariables false

theorem wf_i64 {n : Int} (h : (Lit.int .i64 n).wf = true) : -9223372036854775808 ≤ n ∧ n ≤ 9223372036854775807 := by
  simp [Lit.wf, IntKind.min, IntKind.max, IntKind.signed, IntKind.bits] at h
  omega
/-- a row that came in, cut to its first k elements -/
theorem RowOf.ints {w : World} {a : Option Addr} {len cap : Nat} {zs : List Int} (h : RowOf .i64 w a len cap zs) (k : Nat) (hk : k ≤ len) :
    ∃ l : List Int, l = zs.take k ∧ l.length = k ∧ (∀ x ∈ l, -9223372036854775808 ≤ x ∧ x ≤ 9223372036854775807) ∧ (k = 0 ∨ ∃ b off, a = some ⟨b, off, none⟩ ∧ b < w.heap.size ∧ ∀ j, j < k → w.cell? ⟨b, off + j, none⟩ = some (.int .i64 (l.getD j 0))) := by
  refine ⟨zs.take k, rfl, ?_, ?_, ?_⟩
  · rcases h with ⟨rfl, rfl, rfl, rfl⟩ | ⟨x, rfl, hl, hm, hz, _⟩
    · obtain rfl : k = 0 := by omega
      rfl
    · rw [List.length_take]; omega
  · intro x hx
    rcases h with ⟨rfl, rfl, rfl, rfl⟩ | ⟨y, rfl, hl, hm, hz, hc, hw⟩
    · simp at hx
    · exact wf_i64 (hw x (List.mem_of_mem_take hx))
  · by_cases h0 : k = 0
    · exact .inl h0
    · right
      rcases h with ⟨rfl, rfl, rfl, rfl⟩ | ⟨⟨b, off, spot⟩, rfl, hl, hm, hz, hc, hw⟩
      · omega
      · have c0 := hc 0 (by omega)
        have hs : spot = none := by
          have := World.cell?_spot c0
          simpa [Addr.add] using this
        subst hs
        have hb : b < w.heap.size := by
          have := World.block_lt_of_cell? w _ c0
          simpa [Addr.add] using this
        refine ⟨b, off, rfl, hb, fun j hj => ?_⟩
        have hcj := hc j (by omega)
        have ha : (⟨b, off, none⟩ : Addr).add j = ⟨b, off + j, none⟩ := by unfold Addr.add; split <;> simp_all
        rw [ha] at hcj
        rw [hcj]
        simp [List.getD, hj]
theorem Ints.below {w w' : World} {v : Value} {zs : List Int} (h : Ints w v zs) (hb : Below w.heap.size w w') : Ints w' v zs := by
  obtain ⟨a, cap, rfl, hm, hc⟩ := h
  refine ⟨a, cap, rfl, hm, hc.imp id ?_⟩
  rintro ⟨b, off, rfl, hlt, hcell⟩
  exact ⟨b, off, rfl, Nat.lt_of_lt_of_le hlt hb.size, fun j hj => by rw [hb.cell hlt]; exact hcell j hj⟩
end Go.Proofs.Ytjaaddjbmimjoaa
/-
  What was put is taken again: plain facts; NumBack's walk.
-/

namespace Go.Proofs.Ytjaaddjbmimjoaa
open Go.RowKit
set_option linter.unusedVariables false

theorem Src.other {w w' : World} {b c : Nat} {r : RS} (h : Src w c r) (ho : Only b w w') (hne : c ≠ b) : Src w' c r := (ho.block c h.lt hne).trans h
end Go.Proofs.Ytjaaddjbmimjoaa
