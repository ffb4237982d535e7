/-
  The law's own functions of layer 7: bytes, key, value.
-/
import Derived.Test.YtgnnijpfkgmomaaGreatDoorJlw
namespace Go.Proofs.YtgnnijpfkgmomaaGreatDoor
open Go.RowKit
set_option linter.unusedVariables false
set_option linter.unusedSimpArgs false

def bytesP : List JP → Nat
  | [] => 0
  | p :: l => 5 + p.k.size + p.v.size + bytesP l
theorem bytesP_snoc (l : List JP) (p : JP) : bytesP (l ++ [p]) = bytesP l + (5 + p.k.size + p.v.size) := by
  induction l with
  | nil => simp [bytesP]
  | cons q l ih => simp [bytesP, ih]; omega
theorem bytesP_le (l : List JP) (h : ∀ p ∈ l, p.k.size ≤ 100000 ∧ p.v.size ≤ 100000) : bytesP l ≤ l.length * 200005 := by
  induction l with
  | nil => simp [bytesP]
  | cons q l ih =>
    have h1 := h q (by simp)
    have h2 := ih (fun p hp => h p (by simp [hp]))
    simp only [bytesP, List.length_cons]
    omega
set_option maxHeartbeats 1600000 in
set_option maxRecDepth 100000 in
theorem lbytes {va : Value} {la : List JP} {w : World} (ha : SR w va 2 la.length (pCells la)) (h1 : ∀ p ∈ la, p.k.size ≤ 100000 ∧ p.v.size ≤ 100000) (hl : la.length ≤ 100000) :
    Calls Tryz.prog 18 #[va] w fun e w' => e = .returned (.int .i64 (bytesP la : Nat)) ∧ Below w.heap.size w w' := by
  obtain ⟨aa, ca, rfl, ha1, ha2⟩ := ha.form
  obtain ⟨m, hm⟩ : ∃ m, la.length = m := ⟨_, rfl⟩
  rw [hm] at ha ha1 hl ⊢
  have HA := Lib.hid ha
  have HM := Lib.hid (And.intro hm h1)
  unfold maxLen at ha2
  obtain ⟨Z, hZ⟩ : ∃ Z, bytesP la = Z := ⟨_, rfl⟩
  have HZ := Lib.hid hZ
  rw [hZ]
  clear ha h1 hm hZ
  go_enter Tryz.func18, Tryz.ntmps18
  go_wp2_with fail
  go_loopw [3, 4] (fun nv iv wr => Hid (Below w.heap.size w wr) ∧ ∃ i : Nat, i ≤ m ∧ iv = .int .i64 i ∧ nv = .int .i64 (bytesP (la.take i) : Nat)) (fun _ iv _ => m - (intOf iv).toNat)
  case atStart => exact ⟨Lib.hid (Below.refl _ _), 0, by omega, rfl, rfl⟩
  case round =>
    obtain ⟨HBR, i, hi, rfl, rfl⟩ := hrel
    by_cases hlt : i < m
    · have hxl : i < la.length := by rw [HM.out.1]; exact hlt
      have hx : la[i]? = some la[i] := List.getElem?_eq_getElem hxl
      have htx : la.take (i + 1) = la.take i ++ [la[i]] := List.take_succ_eq_append_getElem hxl
      have hsx := HM.out.2 _ (List.getElem_mem hxl)
      generalize la[i] = x at *
      have hlti : (i : Int) < (m : Int) := by omega
      obtain ⟨b0, off, rfl, -, -, r⟩ := sr_block_J (HA.out.below HBR.out) (by omega)
      obtain ⟨r0, r1⟩ := r i x hx
      have hbp := bytesP_le (la.take i) (fun p hp => HM.out.2 p (List.mem_of_mem_take hp))
      have hlen : (la.take i).length = i := by rw [List.length_take]; omega
      rw [hlen] at hbp
      have hbs : bytesP (la.take (i + 1)) = bytesP (la.take i) + (5 + x.k.size + x.v.size) := by rw [htx, bytesP_snoc]
      generalize bytesP (la.take i) = Y at *
      have HBS := Lib.hid hbs
      have k1 : (Y : Int) ≤ 20000500000 := by omega
      have k2 : (x.k.size : Int) ≤ 100000 := by omega
      have k3 : (x.v.size : Int) ≤ 100000 := by omega
      obtain ⟨K, hK⟩ : ∃ K, x.k = K := ⟨_, rfl⟩
      obtain ⟨V, hV⟩ : ∃ V, x.v = V := ⟨_, rfl⟩
      rw [hK] at r0 HBS k2
      rw [hV] at r1 HBS k3
      clear hx htx hsx r hbp hlen hbs hK hV
      go_upto_region 5 with fail
      go_region
      go_wp2_with fail
      go_roundw
      case rel => exact ⟨Lib.hid (below_drewN' HBR.out 1), i + 1, by omega, by go_num, by rw [HBS.out]; first | go_num | (congr 1; omega)⟩
      case measure => simp [intOf]; omega
    · obtain rfl : i = m := by omega
      have hz : bytesP (la.take i) = Z := by rw [List.take_of_length_le (by rw [HM.out.1]; omega)]; exact HZ.out
      generalize bytesP (la.take i) = Y at *
      subst hz
      go_wp2_with fail
      go_returns
      exact ⟨rfl, HBR.out⟩
set_option maxHeartbeats 1600000 in
set_option maxRecDepth 100000 in
theorem lkey (n : Int) (w : World) (hn : (Lit.int .i64 n).wf = true) : Calls Tryz.prog 9 #[.int .i64 n] w fun e w' => ∃ s : ByteArray, e = .returned (.string s) ∧ s.size = 2 ∧ Below w.heap.size w w' := by
  have hw := wf_le hn
  have hm3 := mask3 n
  obtain ⟨x, hx⟩ : ∃ x : Nat, n % 4 = (x : Int) := ⟨(n % 4).toNat, by omega⟩
  have hx4 : x < 4 := by omega
  rw [hx] at hm3
  obtain ⟨q, hq⟩ : ∃ q : Int, n / 4 = q := ⟨_, rfl⟩
  have hq1 : -9223372036854775808 ≤ q ∧ q ≤ 9223372036854775807 := by omega
  have hm7 := mask7 q
  obtain ⟨y, hy⟩ : ∃ y : Nat, q % 8 = (y : Int) := ⟨(q % 8).toNat, by omega⟩
  have hy8 : y < 8 := by omega
  rw [hy] at hm7
  clear hn hw hx hy
  go_enter Tryz.func9, Tryz.ntmps9
  have hax : ((UInt8.ofNat (97 + x)).toNat : Int) = 97 + (x : Int) := by
    rw [UInt8.toNat_ofNat']
    omega
  have hay : ((UInt8.ofNat (97 + y)).toNat : Int) = 97 + (y : Int) := by
    rw [UInt8.toNat_ofNat']
    omega
  have hcv : (convert 60 9 (.slice (some ⟨w.heap.size, 0, none⟩) 2 2)).run Tryz.prog (w.alloc (.cells #[.int .u8 (97 + (x : Int)), .int .u8 (97 + (y : Int))] 5)) = .ok (.string ⟨[UInt8.ofNat (97 + x), UInt8.ofNat (97 + y)].toArray⟩) (w.alloc (.cells #[.int .u8 (97 + (x : Int)), .int .u8 (97 + (y : Int))] 5)) := by
    have ho := World.ownsRow_lit (e := 5) (size := 1) (base := w.heap.size) w #[.int .u8 (97 + (x : Int)), .int .u8 (97 + (y : Int))] 2 (Nat.le_refl _) (by unfold maxLen; omega) rfl
    refine conv_own (N := w.heap.size) (n := 2) (l := [UInt8.ofNat (97 + x), UInt8.ofNat (97 + y)]) ?_
    have e1 : bCells [UInt8.ofNat (97 + x), UInt8.ofNat (97 + y)] = [.int .u8 (97 + (x : Int)), .int .u8 (97 + (y : Int))] := by
      simp only [bCells, Lib.byteCells, List.map_cons, List.map_nil, hax, hay]
    rw [e1]
    exact ho
  have hsz : (⟨[UInt8.ofNat (97 + x), UInt8.ofNat (97 + y)].toArray⟩ : ByteArray).size = 2 := rfl
  generalize (⟨[UInt8.ofNat (97 + x), UInt8.ofNat (97 + y)].toArray⟩ : ByteArray) = T at hcv hsz
  have hb1 : Below w.heap.size w (w.alloc (.cells #[.int .u8 (97 + (x : Int)), .int .u8 (97 + (y : Int))] 5)) := (Below.refl _ _).alloc (Nat.le_refl _) _
  have HB := Lib.hid (And.intro hb1 hsz)
  clear hax hay hb1 hsz
  go_wp2_with fail
  go_returns
  exact ⟨T, rfl, HB.out.2, HB.out.1⟩
theorem conv_lit {w : World} {k : Nat} {l : List UInt8} (hk : w.heap[k]? = some (.cells (bCells l).toArray 5)) (hl : l.length ≤ 1000) : (convert 60 9 (.slice (some ⟨k, 0, none⟩) l.length l.length)).run Tryz.prog w = .ok (.string ⟨l.toArray⟩) w := by
  refine conv_own (N := 0) (n := l.length) (l := l) ⟨by rw [bCells_length]; omega, .inr ⟨k, l.length, _, rfl, Nat.zero_le _, hk, Nat.le_refl _, by unfold maxLen; omega, by simp [bCells_length], ?_⟩⟩
  rw [Nat.mul_one, List.take_of_length_le (by simp [bCells_length])]
set_option maxHeartbeats 1600000 in
set_option maxRecDepth 100000 in
theorem lvalue (n long : Int) (w : World) : Calls Tryz.prog 17 #[.int .i64 n, .int .i64 long] w fun e w' => ∃ s : ByteArray, e = .returned (.string s) ∧ 1 ≤ s.size ∧ s.size ≤ 64 ∧ Below w.heap.size w w' := by
  obtain ⟨i0, hi, hz0, hz1, hz2⟩ := info_parts (show (Tryz.prog.info? 5).map (fun i => (i.zero, i.size, i.bytes)) = some (some (.int .u8 0), 1, 1) by kernel_rfl)
  have hm7 := mask7 n
  obtain ⟨x, hx⟩ : ∃ x : Nat, n % 8 = (x : Int) := ⟨(n % 8).toNat, by omega⟩
  have hx8 : x < 8 := by omega
  rw [hx] at hm7
  have hm63 := mask_mod long 6 63 (by decide) (by decide)
  obtain ⟨z, hz⟩ : ∃ z : Nat, long % ((2 ^ 6 : Nat) : Int) = (z : Int) := ⟨(long % 64).toNat, by omega⟩
  have hz64 : z < 64 := by omega
  rw [hz] at hm63
  have hax : ((UInt8.ofNat (48 + x)).toNat : Int) = 48 + (x : Int) := by
    rw [UInt8.toNat_ofNat']
    omega
  have hcA : #[Value.int .u8 (48 + (x : Int))] = (bCells [UInt8.ofNat (48 + x)]).toArray := by
    simp only [bCells, Lib.byteCells, List.map_cons, List.map_nil, hax]
  have hmk : ∀ w, (Instr.makeSlice 60 (.int .i64 z) (.int .i64 z)).run Tryz.prog w = .ok (.slice (some ⟨w.heap.size, 0, none⟩) z z) (w.alloc (.cells (bCells (List.replicate z 0)).toArray 5)) := fun w => by
    have hr := run_make (P := Tryz.prog) w 60 5 i0 _ Tryz.underlying60 hi hz0 .i64 .i64 z z (by omega) (Int.le_refl _) (by rw [hz2]; omega) (by omega)
    simp only [Int.toNat_natCast] at hr
    rw [hr, hz1, Nat.mul_one]
    congr 3
    apply Array.ext'
    rw [show (Value.int .u8 0).cells = #[Value.int .u8 0] from rfl, toList_madeCells_one]
    simp [bCells, Lib.byteCells]
  obtain ⟨A, hA⟩ : ∃ A, [UInt8.ofNat (48 + x)] = A := ⟨_, rfl⟩
  obtain ⟨Z, hZ⟩ : ∃ Z : List UInt8, List.replicate z 0 = Z := ⟨_, rfl⟩
  have hAl : A.length = 1 := by rw [← hA]; rfl
  have hZl : Z.length = z := by rw [← hZ]; simp
  rw [hA] at hcA
  simp only [hZ] at hmk
  obtain ⟨Zc, hZc⟩ : ∃ Zc, (bCells Z).toArray = Zc := ⟨_, rfl⟩
  have o1 : ∀ (cs cs' : Array Value) (l : List UInt8), cs = (bCells l).toArray → l.length ≤ 1000 →
      (convert 60 9 (.slice (some ⟨w.heap.size, 0, none⟩) l.length l.length)).run Tryz.prog (w.alloc (.cells cs 5)).drew = .ok (.string ⟨l.toArray⟩) (w.alloc (.cells cs 5)).drew ∧
      (convert 60 9 (.slice (some ⟨w.heap.size, 0, none⟩) l.length l.length)).run Tryz.prog ((w.alloc (.cells cs 5)).alloc (.cells cs' 5)).drew = .ok (.string ⟨l.toArray⟩) ((w.alloc (.cells cs 5)).alloc (.cells cs' 5)).drew ∧
      (convert 60 9 (.slice (some ⟨w.heap.size + 1, 0, none⟩) l.length l.length)).run Tryz.prog ((w.alloc (.cells cs' 5)).alloc (.cells cs 5)).drew = .ok (.string ⟨l.toArray⟩) ((w.alloc (.cells cs' 5)).alloc (.cells cs 5)).drew := by
    intro cs cs' l hcs hl
    subst hcs
    have a1 := heap_alloc_self w (.cells (bCells l).toArray 5)
    have a2 : ((w.alloc (.cells (bCells l).toArray 5)).alloc (.cells cs' 5)).heap[w.heap.size]? = some (.cells (bCells l).toArray 5) := (Below.heap_alloc _ _ _ (lt_heap a1)).trans a1
    have a3 := heap_alloc_self (w.alloc (.cells cs' 5)) (.cells (bCells l).toArray 5)
    rw [show (w.alloc (.cells cs' 5)).heap.size = w.heap.size + 1 by simp] at a3
    exact ⟨conv_lit (w := (w.alloc (.cells (bCells l).toArray 5)).drew) a1 hl, conv_lit (w := ((w.alloc (.cells (bCells l).toArray 5)).alloc (.cells cs' 5)).drew) a2 hl, conv_lit (w := ((w.alloc (.cells cs' 5)).alloc (.cells (bCells l).toArray 5)).drew) a3 hl⟩
  obtain ⟨f1, f2, g3⟩ := o1 #[.int .u8 (48 + (x : Int))] Zc A hcA (by omega)
  obtain ⟨g1, g2, f3⟩ := o1 Zc #[.int .u8 (48 + (x : Int))] Z hZc.symm (by omega)
  have hwr : IntKind.u8.wrap (IntKind.i64.wrap (48 + (x : Int))) = 48 + (x : Int) := by rw [IntWalk.i64_in _ (by omega), wrap_u8_in _ (by omega) (by omega)]
  rw [hAl] at f1 f2 g3
  rw [hZl] at g1 g2 f3
  simp only [hZc] at hmk
  have hSA : (⟨A.toArray⟩ : ByteArray).size = 1 := by show A.toArray.size = 1; simpa using hAl
  have hSZ : (⟨Z.toArray⟩ : ByteArray).size = z := by show Z.toArray.size = z; simpa using hZl
  generalize (⟨A.toArray⟩ : ByteArray) = TA at *
  generalize (⟨Z.toArray⟩ : ByteArray) = TZ at *
  have hb1 : Below w.heap.size w ((w.alloc (.cells #[.int .u8 (48 + (x : Int))] 5)).alloc (.cells Zc 5)).drew := (((Below.refl _ _).alloc (Nat.le_refl _) _).alloc (by simp) _).drew
  have hb2 : Below w.heap.size w ((w.alloc (.cells Zc 5)).alloc (.cells #[.int .u8 (48 + (x : Int))] 5)).drew := (((Below.refl _ _).alloc (Nat.le_refl _) _).alloc (by simp) _).drew
  have HB := Lib.hid (And.intro hb1 hb2)
  have q1 : ¬ (9223372036854775807 < TA.size + TZ.size) := by omega
  have q2 : TA.size + TZ.size ≤ 9223372036854775807 := by omega
  have HS := Lib.hid (And.intro hSA hSZ)
  clear o1 hb1 hb2 hcA hax hA hZ hAl hZl hZc hx hz hSA hSZ hi hz0 hz1 hz2
  go_enter Tryz.func17, Tryz.ntmps17
  go_upto_region 1 with fail
  go_region
  all_goals
    go_wp2_with fail
    go_returns
    refine ⟨TA ++ TZ, rfl, ?_, ?_, ?_⟩
    · rw [ByteArray.size_append]; have := HS.out; omega
    · rw [ByteArray.size_append]; have := HS.out; omega
    · first | exact HB.out.1 | exact HB.out.2
end Go.Proofs.YtgnnijpfkgmomaaGreatDoor
