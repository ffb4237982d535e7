/-
  hexa: digits of bytes (Put), of the program and of the reference.
-/
import Derived.Test.YtbncifmmahgfeaaZero
import Derived.Test.YtbncifmmahgfeaaBytes
import Derived.Test.YtbncifmmahgfeaaMask
import Derived.BigRegion
import Derived.Deep.RegionLaw
import Derived.Laws.MakeOwn
namespace Go.Proofs.Ytbncifmmahgfeaa
open Go.RowKit
set_option linter.unusedVariables false
set_option linter.unusedSimpArgs false

/-- the digits -/
def hexD : List UInt8 := [48, 49, 50, 51, 52, 53, 54, 55, 56, 57, 97, 98, 99, 100, 101, 102]
def dig (n : Nat) : UInt8 := hexD.getD n 0
/-- bytes as digits -/
def hexL (l : List UInt8) : List UInt8 := l.flatMap fun c => [dig (c.toNat / 16), dig (c.toNat % 16)]
theorem hexL_len (l : List UInt8) : (hexL l).length = 2 * l.length := by
  induction l with
  | nil => rfl
  | cons c l ih => simp [hexL] at ih ⊢; omega
theorem hexL_snoc (l : List UInt8) (c : UInt8) : hexL (l ++ [c]) = hexL l ++ [dig (c.toNat / 16), dig (c.toNat % 16)] := by simp [hexL]
set_option maxRecDepth 100000 in
theorem dig_extract (q : Nat) (h : q ≤ 15) : ByteArray.extract ⟨#[48, 49, 50, 51, 52, 53, 54, 55, 56, 57, 97, 98, 99, 100, 101, 102]⟩ q (q + 1) = ⟨#[dig q]⟩ := by
  have e : (⟨#[48, 49, 50, 51, 52, 53, 54, 55, 56, 57, 97, 98, 99, 100, 101, 102]⟩ : ByteArray) = ⟨hexD.toArray⟩ := rfl
  have hd : ∀ q : Fin 16, (hexD.drop q.val).take (q.val + 1 - q.val) = [dig q.val] := by decide
  rw [e, str_extract, hd ⟨q, by omega⟩]
theorem bytes_succ (s : ByteArray) (j : Nat) (h : j < s.size) : s.data.toList.take (j + 1) = s.data.toList.take j ++ [s[j]'h] := by
  have hl : j < s.data.toList.length := by rw [Array.length_toList]; exact h
  rw [List.take_succ_eq_append_getElem hl]
  rfl
theorem bytes_all (s : ByteArray) : s.data.toList.take s.size = s.data.toList := List.take_of_length_le (by simp)
set_option maxRecDepth 100000 in
/-- the reference's Put -/
theorem rput (s : ByteArray) (w : World) (hs : s.size ≤ 100) : Calls Try.prog 10 #[.string s] w fun e w' => e = .returned (.string ⟨(hexL s.data.toList).toArray⟩) ∧ ∃ n, w' = w.drewN n := by
  go_enter Try.func10, Try.ntmps10
  go_wp2_with fail
  go_loopw [4, 5] (fun o i wr => ∃ j : Nat, j ≤ s.size ∧ i = .int .i64 j ∧ o = .string ⟨(hexL (s.data.toList.take j)).toArray⟩ ∧ ∃ n, wr = w.drewN n) (fun _ i _ => s.size - (intOf i).toNat)
  case atStart => exact ⟨0, Nat.zero_le _, rfl, rfl, 0, rfl⟩
  case round =>
    obtain ⟨j, hj, rfl, rfl, n, rfl⟩ := hrel
    by_cases hlt : j < s.size
    · have hi1 : (j : Int) < (s.size : Int) := by omega
      obtain ⟨c, hc⟩ : ∃ c : UInt8, s[j]'hlt = c := ⟨_, rfl⟩
      obtain ⟨q, hq⟩ : ∃ q : Nat, c.toNat / 16 = q := ⟨_, rfl⟩
      obtain ⟨r, hr⟩ : ∃ r : Nat, c.toNat % 16 = r := ⟨_, rfl⟩
      have hc256 := c.toNat_lt
      have hq15 : q ≤ 15 := by omega
      have hr15 : r ≤ 15 := by omega
      have hqi : (c.toNat : Int) / 16 = (q : Int) := by omega
      have hri : (c.toNat : Int) % 16 = (r : Int) := by omega
      have hqi' : (c.toNat : Int).tdiv 16 = (q : Int) := by rw [Int.tdiv_eq_ediv_of_nonneg (by omega)]; exact hqi
      have hri' : (c.toNat : Int).tmod 16 = (r : Int) := by rw [Int.tmod_eq_emod_of_nonneg (by omega)]; exact hri
      have hol : (hexL (s.data.toList.take j)).length ≤ 200 := by rw [hexL_len, List.length_take]; omega
      obtain ⟨o, ho⟩ : ∃ o, hexL (s.data.toList.take j) = o := ⟨_, rfl⟩
      rw [ho] at hol
      try rw [ho]
      have hos : (⟨o.toArray⟩ : ByteArray).size ≤ 200 := by simpa [ByteArray.size] using hol
      obtain ⟨O, hO⟩ : ∃ O : ByteArray, (⟨o.toArray⟩ : ByteArray) = O := ⟨_, rfl⟩
      rw [hO] at hos
      try rw [hO]
      go_wp2_with fail
      go_quiet (fail)
      go_wp2_with fail
      go_roundw
      case rel =>
        refine ⟨j + 1, by omega, by go_num, ?_, _, rfl⟩
        rw [bytes_succ s j hlt, hc, hexL_snoc, hq, hr, ho, dig_extract q hq15, dig_extract r hr15, ← hO]
        exact congrArg Value.string (str_ext (by simp))
      case measure => simp [intOf]; omega
    · obtain rfl : j = s.size := by omega
      rw [bytes_all]
      go_wp2_with fail
      go_ret
      exact ⟨rfl, n, rfl⟩
section
variable {P : Program}
/-- append onto a row of the call's own, as one step of a region that draws -/
theorem step_app {t e : TypeId} {i : TypeInfo} {z : Value} {size bytes : Nat} (ht : P.underlying t = some (.slice e)) (hi : P.info? e = some i) (hz : i.zero = some z) (hsize : i.size = size) (hby : i.bytes = bytes)
    (hzs : z.cells.size = size) (hsz : 0 < size) {ops : Array Oper} {o : Oper} {a : Act} {K : Act → World → Prop} {Q : Exit → Act → World → Prop} {E : Prop} {w : World} (hgd : o.guard = none) (s x : Operand)
    (ho : o.op = .call { callee := .builtin .append, args := #[s, x], argTypes := #[t, t] }) (base : Nat) (v : Value) (n : Nat) (xs : List Value) (hs : a.eval s = v) (hown : w.ownsRow base e size v n xs)
    (u : Value) (m : Nat) (news : List Value) (hx : a.eval x = u) (hr : SR w u size m news)
    (h1 : ∀ y ∈ news, y.oneCell' = true) (h63 : n + m ≤ maxLen) (hbytes : (n + m) * bytes ≤ 140737488355328) (hbase : base ≤ w.heap.size)
    (h : ∀ v' w', w'.ownsRow base e size v' (n + m) (xs ++ news) → w.grownBy w' v.ownBlock → K (a.put o.dst v') w') :
    if Region.wanted o (yielded ops a.tmps) = true then Oper.wp P o a w K Q else E := by
  have hw : Region.wanted o (yielded ops a.tmps) = true := by simp [Region.wanted, hgd]
  rw [if_pos hw]
  obtain ⟨v', w', hrun, h2, h3⟩ := run_app (P := P) (ty := o.type) ht hi hz hsize hby hzs hsz w base v n xs hown u m news hr h1 h63 hbytes hbase
  unfold Oper.wp execOp
  simp only [ho, resolve, invoke, builtin, Sem.run_bind, Sem.run_pure, Result.andThen_ok, List.map_toArray, List.map_cons, List.map_nil, hs, hx, hrun]
  exact h v' w' h2 h3
end
set_option maxRecDepth 100000 in
theorem and15 (c : UInt8) : bits .and .u8 (c.toNat : Int) 15 = ((c.toNat % 16 : Nat) : Int) := by
  have h : ∀ n : Fin 256, bits .and .u8 ((n.val : Nat) : Int) 15 = ((n.val % 16 : Nat) : Int) := by decide
  exact h ⟨c.toNat, c.toNat_lt⟩
set_option maxRecDepth 100000 in
theorem dig_at (q : Nat) (h : q < (⟨#[48, 49, 50, 51, 52, 53, 54, 55, 56, 57, 97, 98, 99, 100, 101, 102]⟩ : ByteArray).size) : (⟨#[48, 49, 50, 51, 52, 53, 54, 55, 56, 57, 97, 98, 99, 100, 101, 102]⟩ : ByteArray)[q]'h = dig q := by
  have h16 : q < 16 := h
  have hd : ∀ q : Fin 16, (⟨#[48, 49, 50, 51, 52, 53, 54, 55, 56, 57, 97, 98, 99, 100, 101, 102]⟩ : ByteArray)[q.val]'q.isLt = dig q.val := by decide
  exact hd ⟨q, h16⟩
def PutRel (s : ByteArray) (j : Nat) (v : Value) (w wr : World) : Prop := wr.ownsRow w.heap.size 5 1 v (2 * j) (bCells (hexL (s.data.toList.take j))) ∧ Below w.heap.size w wr
theorem put_step {s : ByteArray} {j q r : Nat} {c : UInt8} {v v2 : Value} {w wr w2 : World} {o : Obj} (hlt : j < s.size) (hc : s[j]'hlt = c) (hq : c.toNat / 16 = q) (hr : c.toNat % 16 = r) (h : PutRel s j v w wr)
    (own2 : w2.ownsRow w.heap.size 5 1 v2 (2 * j + 2) (bCells (hexL (s.data.toList.take j)) ++ [.int .u8 (dig q).toNat, .int .u8 (dig r).toNat])) (hg' : ((wr.alloc o).drew).grownBy w2 v.ownBlock) : PutRel s (j + 1) v2 w w2 := by
  have hg : (wr.alloc o).grownBy w2 v.ownBlock := ⟨hg'.os, hg'.tape, hg'.output, hg'.size, hg'.block⟩
  refine ⟨?_, below_app (h.2.alloc h.2.size o) hg (h.1.alloc o) (Nat.le_refl _) (by have := h.2.size; simp; omega)⟩
  rw [bytes_succ s j hlt, hc, hexL_snoc, hq, hr, ← bCells_append]
  exact own2
set_option maxHeartbeats 1600000 in
set_option maxRecDepth 100000 in
theorem hput (s : ByteArray) (w : World) (hs : s.size ≤ 100) : Calls Try.prog 8 #[.string s] w fun e w' => e = .returned (.string ⟨(hexL s.data.toList).toArray⟩) ∧ Below w.heap.size w w' := by
  obtain ⟨i0, hi, hz0, hz1, hz2⟩ := info_parts (show (Try.prog.info? 5).map (fun i => (i.zero, i.size, i.bytes)) = some (some (.int .u8 0), 1, 1) by kernel_rfl)
  obtain ⟨w1, hmk, hown, hgr⟩ := run_make_own (P := Try.prog) (w := w) w.heap.size 33 5 i0 _ 1 Try.underlying33 hi hz0 hz1 .i64 .i64 (2 * s.size) (by rw [hz2]; omega) (by unfold maxLen; omega) (Nat.le_refl _)
  rw [show ((2 * s.size : Nat) : Int) = 2 * (s.size : Int) by omega] at hmk
  have hb1 : Below w.heap.size w w1 := (Below.refl _ _).grown hgr (Nat.le_refl _) (fun q hq => by cases hq)
  have HO1 := Lib.hid hown
  have HB1 := Lib.hid hb1
  clear hown hgr hb1
  go_enter Try.func8, Try.ntmps8
  go_wp2_with fail
  go_loopw [3, 11] (fun v i wr => ∃ j : Nat, j ≤ s.size ∧ i = .int .i64 j ∧ PutRel s j v w wr) (fun _ i _ => s.size - (intOf i).toNat)
  case atStart => exact ⟨0, Nat.zero_le _, rfl, HO1.out, HB1.out⟩
  case round =>
    obtain ⟨j, hj, rfl, hrel⟩ := hrel
    obtain ⟨a3, cap3, rfl⟩ : ∃ a cap, u3 = .slice a (2 * j) cap := by
      obtain ⟨a, cap, e, _⟩ := (SR.owns hrel.1).form
      exact ⟨a, cap, e⟩
    have HR := Lib.hid hrel
    clear hrel
    by_cases hlt : j < s.size
    · have hi1 : (j : Int) < (s.size : Int) := by omega
      obtain ⟨c, hc⟩ : ∃ c : UInt8, s[j]'hlt = c := ⟨_, rfl⟩
      have h15 := and15 c
      obtain ⟨q, hq⟩ : ∃ q : Nat, c.toNat / 16 = q := ⟨_, rfl⟩
      obtain ⟨r, hr⟩ : ∃ r : Nat, c.toNat % 16 = r := ⟨_, rfl⟩
      rw [hr] at h15
      have hc256 := c.toNat_lt
      have hq15 : q ≤ 15 := by omega
      have hr15 : r ≤ 15 := by omega
      have hqi : (c.toNat : Int) / 16 = (q : Int) := by omega
      have hdq := dig_at q (by show q < 16; omega)
      have hdr := dig_at r (by show r < 16; omega)
      have hq15i : (q : Int) < 16 := by omega
      have hr15i : (r : Int) < 16 := by omega
      have HQ := Lib.hid (And.intro hq (And.intro hr hc))
      go_upto_region 5 with fail
      go_region_law (first | (refine step_app Try.underlying33 hi hz0 hz1 hz2 rfl (by decide) rfl (.tmp 14) (.tmp 25) rfl w.heap.size _ _ _ rfl (HR.out.1.alloc (.cells #[.int .u8 (dig q).toNat, .int .u8 (dig r).toNat] 5)) _ 2 [.int .u8 (dig q).toNat, .int .u8 (dig r).toNat] rfl (SR.lit _ _ #[.int .u8 (dig q).toNat, .int .u8 (dig r).toNat] 1 2 (by decide) rfl) (fun y hy => by simp at hy; rcases hy with rfl | rfl <;> rfl) (by unfold maxLen; omega) (by omega) (by have := HR.out.2.size; simp; omega) ?_; intro v2 w2 own2 hg2))
      all_goals
        have O2 := Lib.hid own2
        have G2 := Lib.hid (show ((wr.alloc (.cells #[.int .u8 (dig q).toNat, .int .u8 (dig r).toNat] 5)).drew).grownBy w2 (Value.slice a3 (2 * j) cap3).ownBlock from hg2)
        clear own2 hg2
        go_wp2_with fail
        go_roundw
        case rel => exact ⟨j + 1, by omega, by go_num, put_step hlt HQ.out.2.2 HQ.out.1 HQ.out.2.1 HR.out O2.out G2.out⟩
        case measure => simp [intOf]; omega
    · obtain rfl : j = s.size := by omega
      have hown := HR.out.1
      rw [bytes_all] at hown
      have hcv := owned_string (P := Try.prog) (src := 33) (dst := 9) Try.underlying33 Try.underlying5 Try.underlying9 hown
      clear hown
      go_wp2_with fail
      go_ret
      exact ⟨rfl, HR.out.2⟩
end Go.Proofs.Ytbncifmmahgfeaa
