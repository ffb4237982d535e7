/-
  The spots of a search: keys, what is seen; bits.
-/
import Derived.Test.YtodjlaapmbnahaaSch
import Derived.Maps.Own
import Derived.Maps.OwnSet
import Derived.Maps.Views
import Derived.DeepKeys4
namespace Go.Proofs.Ytodjlaapmbnahaa
open Go.RowKit Go.WideMaps
open Go.Maps (Keyed)
set_option linter.unusedVariables false
set_option linter.unusedSimpArgs false

theorem laidOut40 : laidOutB Try.prog = true := by kernel_rfl
theorem row40 : (79 : TypeId) < Try.prog.types.size := of_decide_eq_true (by kernel_rfl)
theorem wide40 : (match Try.prog.underlying 79 with | some (.array _ _) | some (.struct _) => true | _ => false) = true := by kernel_rfl
set_option maxRecDepth 400000 in
theorem law40 : KeyLaw Try.prog 79 := deep_law_laid laidOut40 (m := 2) (by omega) row40 (by kernel_rfl) wide40
theorem keyed40 : Keyed Try.prog 79 := Keyed.of_law law40
abbrev spotV (d : Nat) (v : ByteArray) : Value := .agg #[.int .u64 (d : Nat), .string v]
theorem wf_d {d : Nat} (hd : d < 4096) : (Lit.int .u64 (d : Nat)).wf = true := by
  simp [Lit.wf, IntKind.min, IntKind.max, IntKind.signed, IntKind.bits]
  omega
theorem keyt40 : Try.prog.keyType 79 = true := by kernel_rfl
theorem cells40 : Try.prog.cellsOf 79 = 2 := by kernel_rfl
theorem cells40u : Try.prog.cellsOf 77 = 1 := by kernel_rfl
theorem cells40s : Try.prog.cellsOf 9 = 1 := by kernel_rfl
theorem lits40 (m d : Nat) (v : ByteArray) (hd : d < 4096) (hv : v.size ≤ maxLen) : (Try.prog.keyLits (m + 1 + 1) 79 [.int .u64 (d : Nat), .string v]).isSome = true := by
  have hwf := wf_d hd
  unfold Program.keyLits
  rw [Try.underlying79]
  simp [cells40, cells40u, cells40s, Program.keyLits, Try.underlying77, Try.underlying9, hwf, hv]
theorem key_spot (d : Nat) (v : ByteArray) (hd : d < 4096) (hv : v.size ≤ maxLen) : ∃ kl, keyOf Try.prog 79 (spotV d v) = some kl := by
  obtain ⟨m, hm⟩ := Nat.exists_eq_add_of_lt (show (0 : Nat) < Try.prog.types.size from Nat.lt_of_le_of_lt (Nat.zero_le _) row40)
  have h := lits40 m d v hd hv
  obtain ⟨ls, hls⟩ := Option.isSome_iff_exists.1 h
  refine ⟨.string (keyBytes ls), ?_⟩
  have hf : (spotV d v).formed Try.prog 79 = true := by
    unfold spotV Value.formed
    rw [Try.underlying79]
    simp [cells40]
  unfold keyOf
  rw [Try.underlying79]
  simp only [keyt40, hf, Bool.and_self, if_true]
  rw [hm, Nat.zero_add]
  show (Program.keyLits _ _ _ [.int .u64 (d : Nat), .string v]).map _ = _
  rw [hls]
  rfl
def InD (D : DataW Unit) (d : Nat) (v : ByteArray) : Prop := ∃ kl, keyOf Try.prog 79 (spotV d v) = some kl ∧ Maps.has D kl = true
abbrev SeenM (w : World) (M m : Nat) (D : DataW Unit) : Prop := w.ownsMap Try.prog 79 unitElem M m D
theorem seen_look {w : World} {M m : Nat} {D : DataW Unit} (h : SeenM w M m D) {d : Nat} {v : ByteArray} (hd : d < 4096) (hv : v.size ≤ maxLen) :
    ∃ b : Bool, (Instr.lookup 73 (.map (some M)) (spotV d v) true).run Try.prog w = .ok (.tuple #[.agg #[], .bool b]) w ∧ (b = true ↔ InD D d v) := by
  obtain ⟨kl, hkl⟩ := key_spot d v hd hv
  obtain ⟨x, ps, hrun, hx⟩ := h.look_ok keyed40 Try.underlying73 (z := .agg #[]) (by kernel_rfl) unitElem_mk hkl
  obtain ⟨rfl, _⟩ := unitElem_inv hx
  refine ⟨_, hrun, fun q => ⟨kl, hkl, q⟩, ?_⟩
  rintro ⟨kl', hk', q⟩
  rw [hkl] at hk'
  rw [Option.some.inj hk']
  exact q
theorem seen_store {w : World} {M m : Nat} {D : DataW Unit} (h : SeenM w M m D) {d : Nat} {v : ByteArray} (hd : d < 4096) (hv : v.size ≤ maxLen) (hm : m < maxLen) :
    ∃ w' D', (Instr.mapUpdate 73 (.map (some M)) (spotV d v) (.agg #[])).run Try.prog w = .ok () w' ∧ SeenM w' M (m + 1) D' ∧ Only M w w' ∧ ∀ d' v', InD D' d' v' → InD D d' v' ∨ (d' = d ∧ v' = v) := by
  obtain ⟨kl, hkl⟩ := key_spot d v hd hv
  obtain ⟨w', hrun, h', ht⟩ := h.store keyed40 Try.underlying73 hm hkl unitElem_mk
  have hg := ht.grown
  refine ⟨w', _, hrun, h', ⟨hg.os, hg.tape, hg.output, hg.size, fun k hk hn => hg.block k hk (fun e => hn (Option.some.inj e))⟩, ?_⟩
  rintro d' v' ⟨kl', hk', q⟩
  by_cases e : kl' = kl
  · subst e
    have hi := keyed40.inj hk' hkl
    simp [spotV] at hi
    exact .inr ⟨by omega, hi.2⟩
  · rw [Maps.has_put_other e] at q
    exact .inl ⟨kl', hk', q⟩
/-- how many are not done -/
def und : Nat → Nat → Nat
  | 0, _ => 0
  | n + 1, d => und n d + if d.testBit n then 0 else 1
theorem tb (d i j : Nat) : (d ||| 2 ^ i).testBit j = (d.testBit j || decide (i = j)) := by rw [Nat.testBit_or, Nat.testBit_two_pow]
theorem und_le (i : Nat) : ∀ n d, und n (d ||| 2 ^ i) ≤ und n d
  | 0, d => Nat.le_refl _
  | n + 1, d => by
    have ih := und_le i n d
    unfold und
    rw [tb]
    cases d.testBit n <;> simp <;> (try split) <;> omega
theorem und_less {i : Nat} : ∀ {n d : Nat}, i < n → d.testBit i = false → und n (d ||| 2 ^ i) + 1 ≤ und n d
  | 0, d, h, _ => by omega
  | n + 1, d, h, hb => by
    unfold und
    rw [tb]
    rcases Nat.lt_or_ge i n with q | q
    · have ih := und_less q hb
      have hne : ¬ i = n := by omega
      cases d.testBit n <;> simp [hne] <;> omega
    · obtain rfl : i = n := by omega
      have h1 := und_le i i d
      simp [hb]
      omega
theorem or_lt {d i : Nat} (hd : d < 4096) (hi : i < 12) : (d ||| 2 ^ i) < 4096 := Nat.or_lt_two_pow (n := 12) hd (Nat.lt_of_lt_of_le (Nat.pow_lt_pow_right (by decide) hi) (Nat.le_refl _))
theorem or_gt {d i : Nat} (hb : d.testBit i = false) : d < (d ||| 2 ^ i) := by
  have h1 : d ≤ (d ||| 2 ^ i) := Nat.left_le_or
  rcases Nat.lt_or_ge d (d ||| 2 ^ i) with q | q
  · exact q
  · have e : (d ||| 2 ^ i) = d := by omega
    have h2 := tb d i i
    rw [e, hb] at h2
    simp at h2
theorem pow_small {i : Nat} (hi : i < 12) : 2 ^ i ≤ 2048 := Nat.le_trans (Nat.pow_le_pow_right (by decide) (show i ≤ 11 by omega)) (by decide)
theorem shl_one {i : Nat} (hi : i < 12) : IntKind.u64.wrap ((2 : Int) ^ i) = ((2 ^ i : Nat) : Int) := by
  have h := pow_small hi
  have e : (2 : Int) ^ i = ((2 ^ i : Nat) : Int) := by simp
  rw [e, IntKind.wrap_u64]
  generalize 2 ^ i = P at *
  omega
theorem or_u64 {d i : Nat} (hd : d < 4096) (hi : i < 12) : bits .or .u64 (d : Int) ((2 ^ i : Nat) : Int) = ((d ||| 2 ^ i : Nat) : Int) := by
  have h := pow_small hi
  have hl := or_lt hd hi
  show IntKind.u64.wrap ((BitVec.ofInt 64 (d : Int) ||| BitVec.ofInt 64 ((2 ^ i : Nat) : Int)).toNat : Nat) = _
  generalize 2 ^ i = P at *
  rw [BitVec.toNat_or]
  rw [show (BitVec.ofInt 64 (d : Int)).toNat = d by rw [BitVec.toNat_ofInt]; omega, show (BitVec.ofInt 64 (P : Int)).toNat = P by rw [BitVec.toNat_ofInt]; omega, IntKind.wrap_u64]
  omega
/-- the slice reads so, whatever becomes of block Y -/
def SRO4 (Y : Nat) (w : World) (v : Value) (n : Nat) (xs : List Value) : Prop := ∀ wz, Only Y w wz → SR wz v 4 n xs
theorem SRO4.now {Y : Nat} {w : World} {v : Value} {n : Nat} {xs : List Value} (h : SRO4 Y w v n xs) : SR w v 4 n xs := h w (Only.refl _ _)
theorem SRO4.only {Y : Nat} {w w' : World} {v : Value} {n : Nat} {xs : List Value} (h : SRO4 Y w v n xs) (ho : Only Y w w') : SRO4 Y w' v n xs := fun wz hz => h wz (ho.trans hz)
theorem ord_not {l : List US} {d : Nat} {v : ByteArray} (h0 : ¬ Over l d) (h : ∀ i u, l[i]? = some u → d.testBit i = false → Fst l d u.f → (u.w = false → u.v = v) → ¬ Ord l (d ||| 2 ^ i) u.v) : ¬ Ord l d v := by
  intro q
  cases q with
  | over q => exact h0 q
  | step h1 h2 h3 h4 h5 => exact h _ _ h1 h2 h3 h4 h5
end Go.Proofs.Ytodjlaapmbnahaa
