/-
  need: what becomes of each block (Parts).
-/
import Derived.Test.YtodjlaapmbnahaaNeed
import Derived.Test.YtodjlaapmbnahaaShelf
namespace Go.Proofs.Ytodjlaapmbnahaa
open Go.RowKit
set_option linter.unusedVariables false
set_option linter.unusedSimpArgs false

def zeroL (n : Nat) : ByteArray := ⟨(List.replicate n 0).toArray⟩
theorem repeat0 (n : Nat) (w : World) (hn : n ≤ 140737488355328) : Calls Try.prog 35 #[.string ⟨#[0]⟩, .int .i64 n] w fun e w' => e = .returned (.string (zeroL n)) ∧ Below w.heap.size w w' := by
  have h := Try.strings_Repeat ⟨#[0]⟩ n w (by omega) (by show 1 * n ≤ _; omega)
  have e : Lib.repeatL [0] n = List.replicate n 0 := by
    have := Lib.repeatL_replicate 0 1 n
    simpa using this
  refine h.mono fun e' w' hw => ⟨?_, hw.2⟩
  rw [hw.1]
  show Ending.returned (.string ⟨(Lib.repeatL [0] n).toArray⟩) = _
  rw [e]; rfl
def partD (W : Int) (D : ByteArray) (k : Nat) : ByteArray := if W = 1 then D.extract (32 * k) (32 * k + 32) else if W = 2 then zeroL 32 else ⟨#[]⟩
/-- what becomes of the k-th block -/
def partK (W : Int) (q : Nat) (D : ByteArray) (k : Nat) : List Value := [.int .i64 ((q + k : Nat) : Int), .bool (!(W == 0)), .string (partD W D k)]
def partsL (W : Int) (q : Nat) (D : ByteArray) (m : Nat) : List Value := (List.range m).flatMap (partK W q D)
theorem parts_succ (W : Int) (q : Nat) (D : ByteArray) (m : Nat) : partsL W q D (m + 1) = partsL W q D m ++ partK W q D m := by
  simp [partsL, List.range_succ]
theorem parts_len (W : Int) (q : Nat) (D : ByteArray) (m : Nat) : (partsL W q D m).length = m * 3 := by
  induction m with
  | zero => rfl
  | succ m ih => rw [parts_succ, List.length_append, ih]; simp [partK, Nat.succ_mul]
theorem pinfo : (Try.prog.info? 89).map (fun i => (i.zero, i.size, i.bytes)) = some (some (.agg #[.int .i64 0, .bool false, .string ⟨#[]⟩]), 3, 32) := by kernel_rfl
def PartRel (W : Int) (q : Nat) (D : ByteArray) (k N : Nat) (v : Value) (w1 wr : World) : Prop := wr.ownsRow N 89 3 v k (partsL W q D k) ∧ Below N w1 wr ∧ N ≤ wr.heap.size

theorem partrel_step {W : Int} {q : Nat} {D : ByteArray} {k N : Nat} {v v' : Value} {w1 w3 w4 w5 : World} {cs : List Value} {o : Obj} (hB : Below N w1 w3) (hn : N ≤ w3.heap.size) (h34 : Below w3.heap.size w3 w4) (hO : w3.ownsRow N 89 3 v k (partsL W q D k))
    (h : w5.ownsRow N 89 3 v' (k + 1) (partsL W q D k ++ cs)) (hg : (w4.alloc o).grownBy w5 v.ownBlock) (hc : cs = partK W q D k) : PartRel W q D (k + 1) N v' w1 w5 := by
  subst hc
  have h35 : Below w3.heap.size w3 (w4.alloc o) := h34.alloc (h34.size) o
  have hb : Below N w1 (w4.alloc o) := hB.trans (h35.mono hn)
  have hb5 := below_app hb hg (owns_below hO h35) (Nat.le_refl _) (Nat.le_trans hn h35.size)
  exact ⟨by rw [parts_succ]; exact h, hb5, Nat.le_trans (Nat.le_trans hn h35.size) hg.size⟩
theorem owns_lower {w : World} {base b n size : Nat} {e : TypeId} {v : Value} {xs : List Value} (h : w.ownsRow base e size v n xs) (hb : b ≤ base) : w.ownsRow b e size v n xs :=
  ⟨h.1, h.2.imp id fun ⟨g, cap, cur, e1, h1, h2⟩ => ⟨g, cap, cur, e1, Nat.le_trans hb h1, h2⟩⟩
/-- nothing, where it may not be asked for, or is a flush -/
theorem nparts_no (W A L : Int) (D : ByteArray) (S : Bool) (B : Int) (w : World) (hA : (Lit.int .i64 A).wf = true) (hL : (Lit.int .i64 L).wf = true) (hD : D.size ≤ maxLen) (h : W = 3 ∨ ¬ AskMay W A L D B) :
    Calls Try.prog 28 #[.agg (askA W A L D S), .int .i64 B] w fun e w' => e = .returned (.slice none 0 0) ∧ Below w.heap.size w w' := by
  have c1 := fun w => nmay W A L D S B w hA hL hD
  unfold askA at *
  by_cases h3 : W = 3
  · subst h3
    clear c1 h
    go_enter Try.func28, Try.ntmps28
    go_wp2_with fail
    go_returns
    exact ⟨rfl, by go_grown⟩
  · have hb : (W == 3) = false := by simpa using h3
    rw [if_neg (by rcases h with h | h; exact absurd h h3; exact h)] at c1
    clear h
    go_enter Try.func28, Try.ntmps28
    go_wp2_with fail
    refine Calls.mono (c1 _) ?_
    rintro e w2 ⟨rfl, hb2⟩
    go_wp2_with fail
    go_returns
    exact ⟨rfl, ((Below.refl _ _).alloc (Nat.le_refl _) _).trans (hb2.mono (by simp))⟩
set_option maxHeartbeats 1600000 in
set_option maxRecDepth 100000 in
theorem nparts (W L : Int) (q m : Nat) (D : ByteArray) (S : Bool) (B : Int) (w : World) (hL : (Lit.int .i64 L).wf = true) (hD : D.size ≤ maxLen) (h3 : W ≠ 3) (hm : AskMay W ((32 * q : Nat) : Int) L D B) (hz : askSz W L D = ((32 * m : Nat) : Int)) :
    Calls Try.prog 28 #[.agg (askA W ((32 * q : Nat) : Int) L D S), .int .i64 B] w fun e w' => ∃ v, e = .returned v ∧ w'.ownsRow w.heap.size 89 3 v m (partsL W q D m) ∧ Below w.heap.size w w' := by
  obtain ⟨i0, hi, hz0, hz1, hz2⟩ := info_parts pinfo
  have hin : 0 ≤ W ∧ W ≤ 2 ∧ Inside ((32 * q : Nat) : Int) (askSz W L D) B := hm.elim (fun h => absurd h h3) id
  have hq : 32 * q + 32 * m ≤ 2048 ∧ m ≤ 4 ∧ 1 ≤ m := by
    have h := hin.2.2
    rw [hz] at h
    unfold Inside at h
    omega
  have hdz : W = 1 → D.size = 32 * m := by
    intro h; rw [askSz, if_pos h] at hz; omega
  have hA : (Lit.int .i64 ((32 * q : Nat) : Int)).wf = true := wf_of (by omega)
  have c1 := fun w => nmay W ((32 * q : Nat) : Int) L D S B w hA hL hD
  rw [if_pos hm] at c1
  have c2 := fun w => nsize W ((32 * q : Nat) : Int) L D S w
  rw [hz] at c2
  obtain ⟨A, hAq⟩ : ∃ A, ((32 * q : Nat) : Int) = A := ⟨_, rfl⟩
  rw [hAq] at c1 c2 ⊢
  unfold askA at *
  have hb : (W == 3) = false := by simpa using h3
  have hx := heap_alloc_self w (.cells #[.int .i64 W, .int .i64 A, .int .i64 L, .string D, .bool S] 33)
  have hb0 : Below w.heap.size w (w.alloc (.cells #[.int .i64 W, .int .i64 A, .int .i64 L, .string D, .bool S] 33)) := (Below.refl _ _).alloc (Nat.le_refl _) _
  have hs : (w.alloc (.cells #[.int .i64 W, .int .i64 A, .int .i64 L, .string D, .bool S] 33)).heap.size = w.heap.size + 1 := by simp
  have HI := Lib.hid (And.intro hin.1 hin.2.1)
  have HQ := Lib.hid hq
  have HDZ := Lib.hid hdz
  have HX := Lib.hid hx
  have HB := Lib.hid hb0
  have HS := Lib.hid hs
  have HAQ := Lib.hid hAq
  clear hin hq hdz hm hz hA hL hD hx hb0 hs hAq h3
  go_enter Try.func28, Try.ntmps28
  go_upto_region 1 with fail
  generalize w.alloc (.cells #[.int .i64 W, .int .i64 A, .int .i64 L, .string D, .bool S] 33) = w1 at *
  obtain ⟨X, hX⟩ : ∃ X, w.heap.size = X := ⟨_, rfl⟩
  rw [hX] at HX HB HS ⊢
  have hlt : X < w1.heap.size := by rw [HS.out]; omega
  have hx := HX.out
  have k0 : w1.cell? ⟨X, 0, none⟩ = some (.int .i64 W) := by simp [World.cell?, hx]
  have k1 : w1.cell? ⟨X, 1, none⟩ = some (.int .i64 A) := by simp [World.cell?, hx]
  have k2 : w1.cell? ⟨X, 2, none⟩ = some (.int .i64 L) := by simp [World.cell?, hx]
  have k3 : w1.cell? ⟨X, 3, none⟩ = some (.string D) := by simp [World.cell?, hx]
  have k4 : w1.cell? ⟨X, 4, none⟩ = some (.bool S) := by simp [World.cell?, hx]
  clear hx
  go_wp2_with fail
  refine Calls.mono (c1 _) ?_
  rintro e w2 ⟨rfl, hb2⟩
  clear k0 k1 k2 k3 k4 c1
  have HB2 := Lib.hid hb2
  clear hb2
  go_wp2_with fail
  go_loopw [5, 6] (fun v i wr => ∃ k : Nat, k ≤ m ∧ i = .int .i64 ((32 * k : Nat) : Int) ∧ PartRel W q D k w1.heap.size v w1 wr) (fun _ i _ => m - (intOf i).toNat / 32)
  case atStart => exact ⟨0, Nat.zero_le _, rfl, ⟨rfl, .inl ⟨rfl, rfl⟩⟩, HB2.out, HB2.out.size⟩
  case round =>
    obtain ⟨k, hk, rfl, hrel⟩ := hrel
    have hbr := hrel.2.1
    have hx := below_at hbr hlt HX.out
    have k0 : wr.cell? ⟨X, 0, none⟩ = some (.int .i64 W) := by simp [World.cell?, hx]
    have k1 : wr.cell? ⟨X, 1, none⟩ = some (.int .i64 A) := by simp [World.cell?, hx]
    have k2 : wr.cell? ⟨X, 2, none⟩ = some (.int .i64 L) := by simp [World.cell?, hx]
    have k3 : wr.cell? ⟨X, 3, none⟩ = some (.string D) := by simp [World.cell?, hx]
    have k4 : wr.cell? ⟨X, 4, none⟩ = some (.bool S) := by simp [World.cell?, hx]
    have HR := Lib.hid hrel
    clear hrel hbr hx
    obtain ⟨i, hi'⟩ : ∃ i : Int, ((32 * k : Nat) : Int) = i := ⟨_, rfl⟩
    obtain ⟨z, hz'⟩ : ∃ z : Int, ((32 * m : Nat) : Int) = z := ⟨_, rfl⟩
    rw [hi']
    rw [hz'] at c2
    by_cases hkm : k < m
    · have hiz : i < z := by omega
      have hi0 : 0 ≤ i := by omega
      have hi1 : i ≤ 96 := by have := HQ.out; omega
      have hA0 : 0 ≤ A := by have := HAQ.out; omega
      have hA1 : A ≤ 2048 := by have := HAQ.out; have := HQ.out; omega
      obtain ⟨qk, hqk⟩ : ∃ x : Int, ((q + k : Nat) : Int) = x := ⟨_, rfl⟩
      have hdv : (A + i).tdiv 32 = qk := by
        have := HAQ.out
        rw [Int.tdiv_eq_ediv_of_nonneg (by omega)]
        omega
      have hq0 : 0 ≤ qk := by omega
      have hq1 : qk ≤ 64 := by have := HQ.out; omega
      have HQK := Lib.hid hqk
      clear hqk
      have HI' := Lib.hid hi'
      have HZ' := Lib.hid hz'
      have HK := Lib.hid (And.intro hk hkm)
      clear hi' hz' hk hkm
      go_wp2_with fail
      refine Calls.mono (c2 _) ?_
      rintro e w3 ⟨rfl, hb3⟩
      have hx := below_at (HR.out.2.1.trans (hb3.mono HR.out.2.2)) hlt HX.out
      have k0 : w3.cell? ⟨X, 0, none⟩ = some (.int .i64 W) := by simp [World.cell?, hx]
      have k1 : w3.cell? ⟨X, 1, none⟩ = some (.int .i64 A) := by simp [World.cell?, hx]
      have k2 : w3.cell? ⟨X, 2, none⟩ = some (.int .i64 L) := by simp [World.cell?, hx]
      have k3 : w3.cell? ⟨X, 3, none⟩ = some (.string D) := by simp [World.cell?, hx]
      have k4 : w3.cell? ⟨X, 4, none⟩ = some (.bool S) := by simp [World.cell?, hx]
      have HB3 := Lib.hid hb3
      clear hb3 hx
      have h3 : X < w3.heap.size := Nat.lt_of_lt_of_le hlt (Nat.le_trans HR.out.2.2 HB3.out.size)
      obtain ⟨b, hbW⟩ : ∃ b, (!(W == 0)) = b := ⟨_, rfl⟩
      have hbn : (W != 0) = b := hbW
      go_upto_region 8 with fail
      obtain ⟨P, hP⟩ : ∃ P, w3.heap.size = P := ⟨_, rfl⟩
      have b4 : Below P w3 (w3.alloc (.cells #[.int .i64 qk, .bool b, .string ⟨#[]⟩] 89)) := (Below.refl _ _).alloc (Nat.le_of_eq hP.symm) _
      have p4 := heap_alloc_self w3 (.cells #[.int .i64 qk, .bool b, .string ⟨#[]⟩] 89)
      have s4 : P < (w3.alloc (.cells #[.int .i64 qk, .bool b, .string ⟨#[]⟩] 89)).heap.size := by simp [hP]
      rw [hP] at p4 h3 ⊢
      generalize w3.alloc (.cells #[.int .i64 qk, .bool b, .string ⟨#[]⟩] 89) = w4 at *
      have j0 : w4.cell? ⟨X, 0, none⟩ = some (.int .i64 W) := (b4.cell (p := ⟨X, 0, none⟩) h3).trans k0
      have j1 : w4.cell? ⟨X, 1, none⟩ = some (.int .i64 A) := (b4.cell (p := ⟨X, 1, none⟩) h3).trans k1
      have j2 : w4.cell? ⟨X, 2, none⟩ = some (.int .i64 L) := (b4.cell (p := ⟨X, 2, none⟩) h3).trans k2
      have j3 : w4.cell? ⟨X, 3, none⟩ = some (.string D) := (b4.cell (p := ⟨X, 3, none⟩) h3).trans k3
      have j4 : w4.cell? ⟨X, 4, none⟩ = some (.bool S) := (b4.cell (p := ⟨X, 4, none⟩) h3).trans k4
      have c0 : w4.cell? ⟨P, 0, none⟩ = some (.int .i64 qk) := by simp [World.cell?, p4]
      have c1 : w4.cell? ⟨P, 1, none⟩ = some (.bool b) := by simp [World.cell?, p4]
      have c2' : w4.cell? ⟨P, 2, none⟩ = some (.string ⟨#[]⟩) := by simp [World.cell?, p4]
      have f2 : w4.frozen? ⟨P, 2, none⟩ = false := by simp [World.frozen?, p4]
      have HB4 := Lib.hid b4
      have HP4 := Lib.hid p4
      have HP := Lib.hid hP
      have HO3 := Lib.hid (owns_below HR.out.1 HB3.out)
      have n3 : w1.heap.size ≤ w3.heap.size := Nat.le_trans HR.out.2.2 HB3.out.size
      have B13 := Lib.hid (HR.out.2.1.trans (HB3.out.mono HR.out.2.2))
      have hW : W = 0 ∨ W = 1 ∨ W = 2 := by have := HI.out; omega
      clear b4 p4 k0 k1 k2 k3 k4 hP
      rcases hW with rfl | rfl | rfl
      · go_wp2_with (at_builtin; refine wp_app Try.underlying86 hi hz0 hz1 hz2 rfl (by decide) rfl (.tmp 47) (.tmp 49) rfl w1.heap.size _ k (partsL 0 q D k) rfl ?c5 _ 1 [.int .i64 qk, .bool b, .string ⟨#[]⟩] rfl (SR.lit _ _ _ 3 1 (by decide) rfl) ?c1 ?c2 ?c3 ?c4 ?_)
        case c5 => exact owns_below HO3.out ((HB4.out.alloc (Nat.le_of_lt s4) _).mono (Nat.le_of_eq HP.out))
        case c1 => first | exact ⟨rfl, rfl, rfl⟩ | (intro y hy; simp at hy; rcases hy with rfl | rfl | rfl <;> rfl)
        case c2 => unfold maxLen; have := HQ.out; have := HK.out; omega
        case c3 => have := HQ.out; have := HK.out; omega
        case c4 => have := HP.out; first | omega | (simp; omega)
        intro v' w5 hown hgr
        have HG := Lib.hid hgr
        have HO := Lib.hid hown
        clear hgr hown
        go_wp2_with fail
        go_roundw
        case rel =>
          refine ⟨k + 1, by have := HK.out; omega, by have := HI'.out; simp; omega, partrel_step B13.out n3 (HB4.out.mono (Nat.le_of_eq HP.out)) HO3.out HO.out HG.out ?_⟩
          subst hbW; simp only [partK, HQK.out]; rfl
        case measure => have := HK.out; have := HI'.out; simp [intOf]; omega
      · have hds : i + 32 ≤ (D.size : Int) := by have := HDZ.out rfl; have := HK.out; have := HI'.out; omega
        go_upto_region 13 with fail
        have e5 := heap_set_self HP4.out 2 (.string (D.extract i.toNat (i + 32).toNat))
        have b5 : Below P w3 (w4.setCell ⟨P, 2, none⟩ (.string (D.extract i.toNat (i + 32).toNat))) := HB4.out.setCell (Nat.le_refl _) _
        have z5 : P < (w4.setCell ⟨P, 2, none⟩ (.string (D.extract i.toNat (i + 32).toNat))).heap.size := by simp; omega
        generalize w4.setCell ⟨P, 2, none⟩ (.string (D.extract i.toNat (i + 32).toNat)) = w6 at *
        have d0 : w6.cell? ⟨P, 0, none⟩ = some (.int .i64 qk) := by simp [World.cell?, e5]
        have d1 : w6.cell? ⟨P, 1, none⟩ = some (.bool b) := by simp [World.cell?, e5]
        have d2 : w6.cell? ⟨P, 2, none⟩ = some (.string (D.extract i.toNat (i + 32).toNat)) := by simp [World.cell?, e5]
        have B5 := Lib.hid b5
        clear e5 b5
        go_wp2_with (at_builtin; refine wp_app Try.underlying86 hi hz0 hz1 hz2 rfl (by decide) rfl (.tmp 47) (.tmp 49) rfl w1.heap.size _ k (partsL 1 q D k) rfl ?c5 _ 1 [.int .i64 qk, .bool b, .string (D.extract i.toNat (i + 32).toNat)] rfl (SR.lit _ _ _ 3 1 (by decide) rfl) ?c1 ?c2 ?c3 ?c4 ?_)
        case c5 => exact owns_below HO3.out ((B5.out.alloc (Nat.le_of_lt z5) _).mono (Nat.le_of_eq HP.out))
        case c1 => first | exact ⟨rfl, rfl, rfl⟩ | (intro y hy; simp at hy; rcases hy with rfl | rfl | rfl <;> rfl)
        case c2 => unfold maxLen; have := HQ.out; have := HK.out; omega
        case c3 => have := HQ.out; have := HK.out; omega
        case c4 => have := HP.out; first | omega | (simp; omega)
        intro v' w7 hown hgr
        have HG := Lib.hid hgr
        have HO := Lib.hid hown
        clear hgr hown
        go_wp2_with fail
        go_roundw
        case rel =>
          refine ⟨k + 1, by have := HK.out; omega, by have := HI'.out; simp; omega, partrel_step B13.out n3 (B5.out.mono (Nat.le_of_eq HP.out)) HO3.out HO.out HG.out ?_⟩
          subst hbW; simp only [partK, HQK.out]; have e : i.toNat = 32 * k ∧ (i + 32).toNat = 32 * k + 32 := by { have := HI'.out; omega }
          rw [e.1, e.2]; rfl
        case measure => have := HK.out; have := HI'.out; simp [intOf]; omega
      · go_wp2_with fail
        refine Calls.mono (repeat0 32 w4 (by decide)) ?_
        rintro e w5 ⟨rfl, hb5⟩
        have f5 : w5.frozen? ⟨P, 2, none⟩ = false := by have := below_at hb5 s4 HP4.out; simp [World.frozen?, this]
        have g2 : w5.cell? ⟨P, 2, none⟩ = some (.string ⟨#[]⟩) := by have := below_at hb5 s4 HP4.out; simp [World.cell?, this]
        go_upto_region 13 with fail
        have e5 := heap_set_self (below_at hb5 s4 HP4.out) 2 (.string (zeroL 32))
        have b5 : Below P w3 (w5.setCell ⟨P, 2, none⟩ (.string (zeroL 32))) := (HB4.out.trans (hb5.mono (Nat.le_of_lt s4))).setCell (Nat.le_refl _) _
        have z5 : P < (w5.setCell ⟨P, 2, none⟩ (.string (zeroL 32))).heap.size := by simp; have := hb5.size; omega
        generalize w5.setCell ⟨P, 2, none⟩ (.string (zeroL 32)) = w6 at *
        have d0 : w6.cell? ⟨P, 0, none⟩ = some (.int .i64 qk) := by simp [World.cell?, e5]
        have d1 : w6.cell? ⟨P, 1, none⟩ = some (.bool b) := by simp [World.cell?, e5]
        have d2 : w6.cell? ⟨P, 2, none⟩ = some (.string (zeroL 32)) := by simp [World.cell?, e5]
        have B5 := Lib.hid b5
        clear e5 b5
        go_wp2_with (at_builtin; refine wp_app Try.underlying86 hi hz0 hz1 hz2 rfl (by decide) rfl (.tmp 47) (.tmp 49) rfl w1.heap.size _ k (partsL 2 q D k) rfl ?c5 _ 1 [.int .i64 qk, .bool b, .string (zeroL 32)] rfl (SR.lit _ _ _ 3 1 (by decide) rfl) ?c1 ?c2 ?c3 ?c4 ?_)
        case c5 => exact owns_below HO3.out ((B5.out.alloc (Nat.le_of_lt z5) _).mono (Nat.le_of_eq HP.out))
        case c1 => first | exact ⟨rfl, rfl, rfl⟩ | (intro y hy; simp at hy; rcases hy with rfl | rfl | rfl <;> rfl)
        case c2 => unfold maxLen; have := HQ.out; have := HK.out; omega
        case c3 => have := HQ.out; have := HK.out; omega
        case c4 => have := HP.out; first | omega | (simp; omega)
        intro v' w7 hown hgr
        have HG := Lib.hid hgr
        have HO := Lib.hid hown
        clear hgr hown
        go_wp2_with fail
        go_roundw
        case rel =>
          refine ⟨k + 1, by have := HK.out; omega, by have := HI'.out; simp; omega, partrel_step B13.out n3 (B5.out.mono (Nat.le_of_eq HP.out)) HO3.out HO.out HG.out ?_⟩
          subst hbW; simp only [partK, HQK.out]; rfl
        case measure => have := HK.out; have := HI'.out; simp [intOf]; omega
    · go_wp2_with fail
      refine Calls.mono (c2 _) ?_
      rintro e w3 ⟨rfl, hb3⟩
      obtain rfl : k = m := by omega
      go_wp2_with fail
      go_returns
      refine ⟨_, rfl, ?_, ?_⟩
      · have := owns_below HR.out.1 hb3
        exact owns_lower this (by rw [HS.out, hX]; omega)
      · rw [hX]
        exact HB.out.trans ((HR.out.2.1.trans (hb3.mono HR.out.2.2)).mono (by omega))
end Go.Proofs.Ytodjlaapmbnahaa
