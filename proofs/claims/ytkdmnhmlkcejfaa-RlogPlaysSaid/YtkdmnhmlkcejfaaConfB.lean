/-
  A configuration near one that may be: Near.
-/
import Derived.Test.YtkdmnhmlkcejfaaConf
import Derived.Test.YtkdmnhmlkcejfaaFits
import Derived.Deep.RegionLaw
import Derived.Deep.CutBlock
import Derived.Deep.AppendLies
namespace Go.Proofs.Ytkdmnhmlkcejfaa
open Go.RowKit
set_option linter.unusedVariables false

section
variable {P : Program}
/-- append onto a row of the call's own, as one step of a region that draws -/
theorem step_app {t e : TypeId} {i : TypeInfo} {z : Value} {size bytes : Nat} (ht : P.underlying t = some (.slice e)) (hi : P.info? e = some i) (hz : i.zero = some z) (hsize : i.size = size) (hby : i.bytes = bytes)
    (hzs : z.cells.size = size) (hsz : 0 < size) {ops : Array Oper} {o : Oper} {a : Act} {K : Act → World → Prop} {Q : Exit → Act → World → Prop} {E : Prop} {w : World} (hgd : o.guard = none) (s x : Operand)
    (ho : o.op = .call { callee := .builtin .append, args := #[s, x], argTypes := #[t, t] }) (base : Nat) (v : Value) (n : Nat) (xs : List Value) (hs : a.eval s = v) (hown : w.ownsRow base e size v n xs)
    (u : Value) (m : Nat) (news : List Value) (hx : a.eval x = u) (hr : SR w u size m news)
    (h1 : ∀ y ∈ news, y.oneCell' = true) (h63 : n + m ≤ maxLen) (hbytes : (n + m) * bytes ≤ 140737488355328) (hbase : base ≤ w.heap.size)
    (h : ∀ v' w', w'.ownsRow base e size v' (n + m) (xs ++ news) → w.grownBy w' v.ownBlock → K (a.put o.dst v') w') :
    if Region.wanted o (yielded ops a.tmps) = true then Oper.wp P o a w K Q else E := by
  have hw : Region.wanted o (yielded ops a.tmps) = true := by simp [Region.wanted, hgd]
  rw [if_pos hw]
  obtain ⟨v', w', hrun, h2, h3⟩ := run_app (P := P) (ty := o.type) ht hi hz hsize hby hzs hsz w base v n xs hown u m news hr h1 h63 hbytes hbase
  unfold Oper.wp execOp
  simp only [ho, resolve, invoke, builtin, Sem.run_bind, Sem.run_pure, Result.andThen_ok, List.map_toArray, List.map_cons, List.map_nil, hs, hx, hrun]
  exact h v' w' h2 h3
end
theorem info_i64 : (Try.prog.info? 3).map (fun i => (i.zero, i.size, i.bytes)) = some (some (.int .i64 0), 1, 8) := by kernel_rfl
/-- a configuration's cells -/
def confA (e b k : Int) (m c : Value) : Array Value := #[.int .i64 e, .int .i64 b, .int .i64 k, m, c]
/-- up to four numbers, of which three bits are kept -/
def low4 (l : List Int) : List Int := (l.take 4).map (· % 8)
theorem two_blocks (w : World) (o p : Obj) : ((w.alloc o).alloc p).heap[w.heap.size]? = some o ∧ ((w.alloc o).alloc p).heap[w.heap.size + 1]? = some p := by
  constructor
  · rw [Below.heap_alloc (w.alloc o) p w.heap.size (by simp)]
    exact heap_alloc_self w o
  · have := heap_alloc_self (w.alloc o) p
    simpa using this
theorem owns_form {w : World} {base n size : Nat} {e : TypeId} {v : Value} {xs : List Value} (h : w.ownsRow base e size v n xs) : ∃ a cap, v = .slice a n cap := by
  obtain ⟨a, cap, e, _⟩ := (SR.owns h).form
  exact ⟨a, cap, e⟩
theorem grown_block {x w w2 : World} {o ob : Obj} {row : Option Nat} {Y : Nat} (hg : x.grownBy w2 row) (hx : x.heap = (w.alloc o).heap) (hY : w.heap[Y]? = some ob) (hne : some Y ≠ row) : w2.heap[Y]? = some ob := by
  have hl := lt_heap hY
  rw [hg.block Y (by rw [hx]; simp; omega) hne, hx, Below.heap_alloc w o Y hl, hY]
theorem grown_only {x w w1 w2 : World} {o : Obj} {row : Option Nat} {Y : Nat} (hg : x.grownBy w2 row) (hx : x.heap = (w.alloc o).heap ∧ x.os = w.os ∧ x.tape = w.tape ∧ x.output = w.output) (ho : Only Y w1 w) (hr : ∀ k, row = some k → w1.heap.size ≤ k) : Only Y w1 w2 := by
  have h1 : Only Y w1 x := ⟨hx.2.1.trans ho.os, hx.2.2.1.trans ho.tape, hx.2.2.2.trans ho.output, by rw [hx.1]; have := ho.size; simp; omega, fun k hk hb => by
    rw [hx.1, Below.heap_alloc w o k (Nat.lt_of_lt_of_le hk ho.size)]; exact ho.block k hk hb⟩
  exact h1.grown hg hr
def LoopRel (Y : Nat) (A : Value → Array Value) (l : List Int) (k : Nat) (w1 wr : World) : Prop :=
  ∃ v, wr.heap[Y]? = some (.cells (A v) 42) ∧ wr.ownsRow w1.heap.size 3 1 v k (nCells ((l.take k).map (· % 8))) ∧ Only Y w1 wr
theorem low_snoc (l : List Int) (k : Nat) (hk : k < l.length) : nCells ((l.take k).map (· % 8)) ++ [.int .i64 (l.getD k 0 % 8)] = nCells ((l.take (k + 1)).map (· % 8)) := by
  have e : l.getD k 0 = l[k] := by simp [List.getD, hk]
  rw [List.take_succ_eq_append_getElem hk, e]
  simp only [nCells, List.map_append, List.map_cons, List.map_nil]
theorem low4_len (l : List Int) : (low4 l).length = min 4 l.length := by simp [low4]
def FirstOf (Y : Nat) (E G K : Int) (M : List Int) (w1 wx : World) : Prop :=
  ∃ v, wx.heap[Y]? = some (.cells #[.int .i64 E, .int .i64 G, .int .i64 K, v, .slice none 0 0] 42) ∧ wx.ownsRow w1.heap.size 3 1 v (low4 M).length (nCells (low4 M)) ∧ Only Y w1 wx
def SecondOf (Y : Nat) (E G K : Int) (v1 : Value) (C : List Int) (w1 wx : World) : Prop :=
  ∃ v, wx.heap[Y]? = some (.cells #[.int .i64 E, .int .i64 G, .int .i64 K, v1, v] 42) ∧ wx.ownsRow w1.heap.size 3 1 v (low4 C).length (nCells (low4 C)) ∧ Only Y w1 wx
theorem sr_block {w : World} {g n : Nat} {cs : Array Value} {t : TypeId} {fr : Nat × Nat} (h : w.heap[g]? = some (.cells cs t fr)) (hn : cs.size = n) (hm : n ≤ maxLen) : SR w (.slice (some ⟨g, 0, none⟩) n n) 1 n cs.toList :=
  ⟨_, n, rfl, Nat.le_refl _, hm, by simpa using hn, .inr ⟨g, 0, rfl, lt_heap h, fun j u hj => by
    rw [Nat.zero_add, cell_of_row w g j cs t fr h]
    simpa using hj⟩⟩
/-- the slice reads so, whatever becomes of block Y -/
def SRO (Y : Nat) (w : World) (v : Value) (size n : Nat) (xs : List Value) : Prop := ∀ wz, Only Y w wz → SR wz v size n xs
theorem SRO.now {Y : Nat} {w : World} {v : Value} {size n : Nat} {xs : List Value} (h : SRO Y w v size n xs) : SR w v size n xs := h w (Only.refl _ _)
theorem SRO.only {Y : Nat} {w w' : World} {v : Value} {size n : Nat} {xs : List Value} (h : SRO Y w v size n xs) (ho : Only Y w w') : SRO Y w' v size n xs := fun wz hz => h wz (ho.trans hz)
theorem only_same {Y : Nat} {w w' : World} (h : SameHeap w w') : Only Y w w' := ⟨h.2.1, h.2.2.1, h.2.2.2, by rw [h.1]; exact Nat.le_refl _, fun k _ _ => by rw [h.1]⟩
theorem sro_block {w : World} {Y g n : Nat} {cs : Array Value} {t : TypeId} {fr : Nat × Nat} (h : w.heap[g]? = some (.cells cs t fr)) (hn : cs.size = n) (hm : n ≤ maxLen) (hne : g ≠ Y) : SRO Y w (.slice (some ⟨g, 0, none⟩) n n) 1 n cs.toList :=
  fun wz ho => sr_block ((ho.block g (lt_heap h) hne).trans h) hn hm
def MidOf (X : Nat) (E G K : Int) (L1 L2 : List Int) (A : Array Value) (w wx : World) : Prop :=
  ∃ v1 v2, wx.heap[X]? = some (.cells A 42) ∧ wx.heap[X + 1]? = some (.cells #[.int .i64 E, .int .i64 G, .int .i64 K, v1, v2] 42) ∧ SRO (X + 1) wx v1 1 L1.length (nCells L1) ∧ SRO (X + 1) wx v2 1 L2.length (nCells L2) ∧ Below w.heap.size w wx
theorem set_far {w : World} {g : Nat} {ob : Obj} {p : Addr} {u : Value} (h : w.heap[g]? = some ob) (hne : g ≠ p.block) : (w.setCell p u).heap[g]? = some ob := (Below.heap_setCell w p u g hne).trans h
theorem alloc_far {w : World} {g : Nat} {ob o : Obj} (h : w.heap[g]? = some ob) : (w.alloc o).heap[g]? = some ob := (Below.heap_alloc w o g (lt_heap h)).trans h
section
variable {X : Nat} {E G K P Q : Int} {A : Array Value} {w wc : World} {v1 v2 : Value}
theorem mid_way1 (hX : wc.heap[X]? = some (.cells A 42)) (hY : wc.heap[X + 1]? = some (.cells #[.int .i64 E, .int .i64 G, .int .i64 K, v1, v2] 42)) (hb : Below w.heap.size w wc) (hw : w.heap.size ≤ X) :
    MidOf X E G K [P] [Q, 4] A w ((((wc.alloc (.cells #[.int .i64 P] 3)).alloc (.cells #[.int .i64 Q, .int .i64 4] 3)).setCell ⟨X + 1, 3, none⟩ (.slice (some ⟨wc.heap.size, 0, none⟩) 1 1)).setCell ⟨X + 1, 4, none⟩ (.slice (some ⟨wc.heap.size + 1, 0, none⟩) 2 2)).drew := by
  have l := lt_heap hY
  have bA := heap_alloc_self wc (.cells #[.int .i64 P] 3)
  have bB : ((wc.alloc (.cells #[.int .i64 P] 3)).alloc (.cells #[.int .i64 Q, .int .i64 4] 3)).heap[wc.heap.size + 1]? = some _ := (two_blocks wc _ _).2
  refine ⟨_, _, set_far (set_far (alloc_far (alloc_far hX)) (by simp)) (by simp), heap_set_self (heap_set_self (alloc_far (alloc_far hY)) 3 _) 4 _, ?_, ?_, ?_⟩
  · exact sro_block (n := 1) (cs := #[.int .i64 P]) (set_far (set_far (alloc_far bA) (by simp; omega)) (by simp; omega)) rfl (by decide) (by omega)
  · exact sro_block (n := 2) (cs := #[.int .i64 Q, .int .i64 4]) (set_far (set_far bB (by simp; omega)) (by simp; omega)) rfl (by decide) (by omega)
  · have hz := hb.size
    exact below_drew' ((((hb.alloc hz _).alloc (by simp; omega) _).setCell (by simp; omega) _).setCell (by simp; omega) _)
theorem mid_way2 (hX : wc.heap[X]? = some (.cells A 42)) (hY : wc.heap[X + 1]? = some (.cells #[.int .i64 E, .int .i64 G, .int .i64 K, v1, v2] 42)) (hb : Below w.heap.size w wc) (hw : w.heap.size ≤ X) :
    MidOf X E G K [P] [Q, 4] A w ((((wc.setCell ⟨X + 1, 3, none⟩ (.slice (some ⟨wc.heap.size, 0, none⟩) 1 1)).alloc (.cells #[.int .i64 P] 3)).alloc (.cells #[.int .i64 Q, .int .i64 4] 3)).setCell ⟨X + 1, 4, none⟩ (.slice (some ⟨wc.heap.size + 1, 0, none⟩) 2 2)).drew := by
  have l := lt_heap hY
  have hs : (wc.setCell ⟨X + 1, 3, none⟩ (.slice (some ⟨wc.heap.size, 0, none⟩) 1 1)).heap.size = wc.heap.size := by simp
  have bA := heap_alloc_self (wc.setCell ⟨X + 1, 3, none⟩ (.slice (some ⟨wc.heap.size, 0, none⟩) 1 1)) (.cells #[.int .i64 P] 3)
  have bB := (two_blocks (wc.setCell ⟨X + 1, 3, none⟩ (.slice (some ⟨wc.heap.size, 0, none⟩) 1 1)) (.cells #[.int .i64 P] 3) (.cells #[.int .i64 Q, .int .i64 4] 3)).2
  rw [hs] at bA bB
  refine ⟨_, _, set_far (alloc_far (alloc_far (set_far hX (by simp)))) (by simp), heap_set_self (alloc_far (alloc_far (heap_set_self hY 3 _))) 4 _, ?_, ?_, ?_⟩
  · exact sro_block (n := 1) (cs := #[.int .i64 P]) (set_far (alloc_far bA) (by simp; omega)) rfl (by decide) (by omega)
  · exact sro_block (n := 2) (cs := #[.int .i64 Q, .int .i64 4]) (set_far bB (by simp; omega)) rfl (by decide) (by omega)
  · have hz := hb.size
    exact below_drew' ((((hb.setCell (by simp; omega) _).alloc (by simp; omega) _).alloc (by simp; omega) _).setCell (by simp; omega) _)
theorem mid_way3 (hX : wc.heap[X]? = some (.cells A 42)) (hY : wc.heap[X + 1]? = some (.cells #[.int .i64 E, .int .i64 G, .int .i64 K, v1, v2] 42)) (hb : Below w.heap.size w wc) (hw : w.heap.size ≤ X) :
    MidOf X E G K [P] [Q, 4] A w ((((wc.alloc (.cells #[.int .i64 Q, .int .i64 4] 3)).alloc (.cells #[.int .i64 P] 3)).setCell ⟨X + 1, 3, none⟩ (.slice (some ⟨wc.heap.size + 1, 0, none⟩) 1 1)).setCell ⟨X + 1, 4, none⟩ (.slice (some ⟨wc.heap.size, 0, none⟩) 2 2)).drew := by
  have l := lt_heap hY
  have bA := heap_alloc_self wc (.cells #[.int .i64 Q, .int .i64 4] 3)
  have bB : ((wc.alloc (.cells #[.int .i64 Q, .int .i64 4] 3)).alloc (.cells #[.int .i64 P] 3)).heap[wc.heap.size + 1]? = some _ := (two_blocks wc _ _).2
  refine ⟨_, _, set_far (set_far (alloc_far (alloc_far hX)) (by simp)) (by simp), heap_set_self (heap_set_self (alloc_far (alloc_far hY)) 3 _) 4 _, ?_, ?_, ?_⟩
  · exact sro_block (n := 1) (cs := #[.int .i64 P]) (set_far (set_far bB (by simp; omega)) (by simp; omega)) rfl (by decide) (by omega)
  · exact sro_block (n := 2) (cs := #[.int .i64 Q, .int .i64 4]) (set_far (set_far (alloc_far bA) (by simp; omega)) (by simp; omega)) rfl (by decide) (by omega)
  · have hz := hb.size
    exact below_drew' ((((hb.alloc hz _).alloc (by simp; omega) _).setCell (by simp; omega) _).setCell (by simp; omega) _)
end
/-- what Near makes of a configuration -/
def nearE (e odd : Int) : Int := if odd % 16 = 4 then 0 else if odd % 16 = 12 then e else e % 32
def nearB (b odd : Int) : Int := if odd % 16 = 4 then 0 else if odd % 16 = 8 then b else 5 + b % 2
def nearK (k odd : Int) : Int := if odd % 16 = 4 then 0 else k % 32 + 1
def badN (M C : List Int) (odd : Int) : Bool := !(nodesB (low4 M) 0 && nodesB (low4 C) 1) && !decide (odd % 4 = 0)
def nearM (b odd : Int) (M C : List Int) : List Int := if odd % 16 = 4 then [] else if badN M C odd then [b / 2 % 4] else low4 M
def nearC (b odd : Int) (M C : List Int) : List Int := if odd % 16 = 4 then [] else if badN M C odd then [b / 8 % 4, 4] else low4 C
def NearPost (e b k odd : Int) (M C : List Int) (w : World) (ev : Ending) (w' : World) : Prop :=
  ∃ v1 v2, ev = .returned (.agg (confA (nearE e odd) (nearB b odd) (nearK k odd) v1 v2)) ∧ SR w' v1 1 (nearM b odd M C).length (nCells (nearM b odd M C)) ∧ SR w' v2 1 (nearC b odd M C).length (nCells (nearC b odd M C)) ∧ Below w.heap.size w w'
set_option maxHeartbeats 12800000 in
set_option maxRecDepth 400000 in
theorem near_any (e b k odd : Int) (m c : Value) (M C : List Int) (w : World) (hm : SR w m 1 M.length (nCells M)) (hc : SR w c 1 C.length (nCells C)) :
    Calls Try.prog 56 #[.agg (confA e b k m c), .int .i64 odd] w (NearPost e b k odd M C w) := by
  obtain ⟨i0, hi, hz0, hz1, hz2⟩ := info_parts info_i64
  obtain ⟨ma, mc, rfl, hmc, hmm⟩ := hm.form
  obtain ⟨ca, cc, rfl, hcc, hcm⟩ := hc.form
  unfold maxLen at hmm hcm
  have HM := Lib.hid hm
  have HC := Lib.hid hc
  have h31e := mask31 e
  have h1b : bits .and .i64 b 1 = b % 2 := mask_mod b 1 1 (by decide) (by decide)
  have h31k := mask31 k
  unfold confA
  clear hm hc
  go_enter Try.func56, Try.ntmps56
  go_upto_region 2 with fail
  have X1 := (two_blocks w (.cells #[.int .i64 e, .int .i64 b, .int .i64 k, .slice ma M.length mc, .slice ca C.length cc] 42) (.cells #[.int .i64 (e % 32), .int .i64 (5 + b % 2), .int .i64 (k % 32 + 1), .slice none 0 0, .slice none 0 0] 42))
  have B1 : Below w.heap.size w ((w.alloc (.cells #[.int .i64 e, .int .i64 b, .int .i64 k, .slice ma M.length mc, .slice ca C.length cc] 42)).alloc (.cells #[.int .i64 (e % 32), .int .i64 (5 + b % 2), .int .i64 (k % 32 + 1), .slice none 0 0, .slice none 0 0] 42)) := by go_grown
  obtain ⟨x1, y1⟩ := X1
  have HX := Lib.hid x1
  have HY := Lib.hid y1
  have HB := Lib.hid B1
  have sz1 : w.heap.size + 1 < ((w.alloc (.cells #[.int .i64 e, .int .i64 b, .int .i64 k, .slice ma M.length mc, .slice ca C.length cc] 42)).alloc (.cells #[.int .i64 (e % 32), .int .i64 (5 + b % 2), .int .i64 (k % 32 + 1), .slice none 0 0, .slice none 0 0] 42)).heap.size := lt_heap y1
  clear x1 y1 B1 h31e h1b h31k
  generalize (w.alloc (.cells #[.int .i64 e, .int .i64 b, .int .i64 k, .slice ma M.length mc, .slice ca C.length cc] 42)).alloc (.cells #[.int .i64 (e % 32), .int .i64 (5 + b % 2), .int .i64 (k % 32 + 1), .slice none 0 0, .slice none 0 0] 42) = w1 at *
  obtain ⟨E, hE⟩ : ∃ E, E = e % 32 := ⟨_, rfl⟩
  obtain ⟨G, hG⟩ : ∃ E, E = 5 + b % 2 := ⟨_, rfl⟩
  obtain ⟨K, hK⟩ : ∃ E, E = k % 32 + 1 := ⟨_, rfl⟩
  simp only [← hE, ← hG, ← hK] at HY ⊢
  have HEGK := Lib.hid (And.intro hE (And.intro hG hK))
  clear hE hG hK
  go_upto_block 0 with fail
  go_cut [] (fun wx => FirstOf (w.heap.size + 1) E G K M w1 wx)
  case first =>
    go_wp2_with fail
    go_loopw [5] (fun i wr => ∃ j : Nat, j ≤ M.length ∧ j ≤ 4 ∧ i = .int .i64 j ∧ LoopRel (w.heap.size + 1) (fun v => #[.int .i64 E, .int .i64 G, .int .i64 K, v, .slice none 0 0]) M j w1 wr) (fun i _ => 4 - (intOf i).toNat)
    case atStart => exact ⟨0, by omega, by omega, rfl, _, HY.out, World.ownsRow_nil _ _ _ _, Only.refl _ _⟩
    case round =>
      obtain ⟨j, hj1, hj2, rfl, v, hY, hown, hon⟩ := hrel
      have hXr := (hon.block w.heap.size (by omega) (by omega)).trans HX.out
      have hsz := hon.size
      by_cases hin : j < M.length ∧ j < 4
      · obtain ⟨hi1, hi2⟩ := hin
        obtain ⟨bb, off, rfl, hb, hcell⟩ := HM.out.int (by omega)
        have cx : wr.cell? ⟨w.heap.size, 3, none⟩ = some (.slice (some ⟨bb, off, none⟩) M.length mc) := by simp [World.cell?, hXr]
        have cy : wr.cell? ⟨w.heap.size + 1, 3, none⟩ = some v := by simp [World.cell?, hY]
        have cl : wr.cell? ⟨bb, off + j, none⟩ = some (.int .i64 (M.getD j 0)) := by
          have h1 : w1.cell? ⟨bb, off + j, none⟩ = some (.int .i64 (M.getD j 0)) := (HB.out.cell hb).trans (hcell j hi1)
          exact (World.cell?_of_block (a := ⟨bb, off + j, none⟩) (hon.block bb (by omega) (by omega))).trans h1
        have hsn := low_snoc M j hi1
        have h7 := mask7 (M.getD j 0)
        obtain ⟨x, hx⟩ : ∃ x, x = M.getD j 0 := ⟨_, rfl⟩
        rw [← hx] at cl hsn h7
        generalize x % 8 = X at *
        have HS := Lib.hid hsn
        have HW := Lib.hid hown
        have HYr := Lib.hid hY
        have HO := Lib.hid hon
        clear hcell hx hsn hY hown hon hXr
        have hneY : some (w.heap.size + 1) ≠ v.ownBlock := fun h => by have := (HW.out.lt _ h.symm).1; omega
        have ny : (wr.alloc (.cells #[.int .i64 X] 3)).cell? ⟨w.heap.size + 1, 3, none⟩ = some v := (World.cell?_alloc_lt wr _ ⟨w.heap.size + 1, 3, none⟩ (by show w.heap.size + 1 < _; omega)).trans cy
        go_upto_region 5 with fail
        go_region_law (first | (refine step_app Try.underlying40 hi hz0 hz1 hz2 rfl (by decide) rfl (.tmp 31) (.tmp 38) rfl w1.heap.size _ _ _ rfl ((HW.out.alloc (.cells #[.int .i64 X] 3))) _ 1 [.int .i64 X] rfl (SR.lit _ _ #[.int .i64 X] 1 1 (by decide) rfl) (fun y hy => by simp at hy; subst hy; rfl) (by unfold maxLen; omega) (by omega) (by simp; omega) ?_; intro v2 w2 own2 hg2; obtain ⟨a2, p2, rfl⟩ := owns_form own2; have y2 := grown_block hg2 rfl HYr.out hneY; have c2 : w2.cell? ⟨w.heap.size + 1, 3, none⟩ = some v := (by simp [World.cell?, y2]); have f2 : w2.frozen? ⟨w.heap.size + 1, 3, none⟩ = false := (by simp [World.frozen?, y2])))
        all_goals
          have Y2 := Lib.hid y2
          have O2 := Lib.hid (own2)
          have G2 := Lib.hid (grown_only hg2 ⟨rfl, rfl, rfl, rfl⟩ HO.out (fun q hq => (HW.out.lt q hq).1))
          clear y2 c2 f2 own2 hg2 ny
          go_wp2_with fail
          go_roundw
          case rel => exact ⟨j + 1, by omega, by omega, by go_num, _, heap_set_self Y2.out 3 _, by rw [← HS.out]; exact owns_kept O2.out ((Only.refl _ _).set 3 _) (by omega), G2.out.set 3 _⟩
          case measure => simp [intOf]; omega
      · have hl : (low4 M).length = j := by rw [low4_len]; omega
        have hk : (M.take j).map (· % 8) = low4 M := by
          unfold low4
          rcases Nat.lt_or_ge 4 M.length with h | h
          · rw [show j = 4 by omega]
          · rw [show j = M.length by omega, List.take_length, List.take_of_length_le (by omega)]
        have FO := Lib.hid (show FirstOf (w.heap.size + 1) E G K M w1 wr from ⟨v, hY, by rw [hl, ← hk]; exact hown, hon⟩)
        have hout : ¬ (j < M.length) ∨ (j < M.length ∧ ¬ ((j : Int) < 4)) := by omega
        have cx : wr.cell? ⟨w.heap.size, 3, none⟩ = some (.slice ma M.length mc) := by simp [World.cell?, hXr]
        clear hY hown hon hXr hin hl hk
        rcases hout with ho | ⟨ho, ho2⟩
        all_goals
          go_wp2_with fail
          go_meet
          exact FO.out
  case rest =>
    obtain ⟨v1, hY, hown1, hon1⟩ := hcut
    have hXr := (hon1.block w.heap.size (by omega) (by omega)).trans HX.out
    obtain ⟨wz, hwz⟩ : ∃ wz, wz = wc := ⟨_, rfl⟩
    subst hwz
    have z1 := hon1.size
    have HX2 := Lib.hid hXr
    have HY2 := Lib.hid hY
    have HR1 := Lib.hid hown1
    have HB2 := Lib.hid (show Below w.heap.size w wz from HB.out.trans (hon1.below (by omega) (by omega)))
    clear hXr hY hown1 hon1 HX HY HB
    go_upto_block 2 with fail
    go_cut [] (fun wx => SecondOf (w.heap.size + 1) E G K v1 C wz wx)
    case first =>
      go_wp2_with fail
      go_loopw [6] (fun i wr => ∃ j : Nat, j ≤ C.length ∧ j ≤ 4 ∧ i = .int .i64 j ∧ LoopRel (w.heap.size + 1) (fun v => #[.int .i64 E, .int .i64 G, .int .i64 K, v1, v]) C j wz wr) (fun i _ => 4 - (intOf i).toNat)
      case atStart => exact ⟨0, by omega, by omega, rfl, _, HY2.out, World.ownsRow_nil _ _ _ _, Only.refl _ _⟩
      case round =>
        obtain ⟨j, hj1, hj2, rfl, v, hY, hown, hon⟩ := hrel
        have hXr := (hon.block w.heap.size (by omega) (by omega)).trans HX2.out
        have hsz := hon.size
        by_cases hin : j < C.length ∧ j < 4
        · obtain ⟨hi1, hi2⟩ := hin
          obtain ⟨bb, off, rfl, hb, hcell⟩ := HC.out.int (by omega)
          have cx : wr.cell? ⟨w.heap.size, 4, none⟩ = some (.slice (some ⟨bb, off, none⟩) C.length cc) := by simp [World.cell?, hXr]
          have cy : wr.cell? ⟨w.heap.size + 1, 4, none⟩ = some v := by simp [World.cell?, hY]
          have cl : wr.cell? ⟨bb, off + j, none⟩ = some (.int .i64 (C.getD j 0)) := by
            have h1 : wz.cell? ⟨bb, off + j, none⟩ = some (.int .i64 (C.getD j 0)) := (HB2.out.cell hb).trans (hcell j hi1)
            exact (World.cell?_of_block (a := ⟨bb, off + j, none⟩) (hon.block bb (by omega) (by omega))).trans h1
          have hsn := low_snoc C j hi1
          have h7 := mask7 (C.getD j 0)
          obtain ⟨x, hx⟩ : ∃ x, x = C.getD j 0 := ⟨_, rfl⟩
          rw [← hx] at cl hsn h7
          generalize x % 8 = X at *
          have HS := Lib.hid hsn
          have HW := Lib.hid hown
          have HYr := Lib.hid hY
          have HO := Lib.hid hon
          clear hcell hx hsn hY hown hon hXr
          have hneY : some (w.heap.size + 1) ≠ v.ownBlock := fun h => by have := (HW.out.lt _ h.symm).1; omega
          have ny : (wr.alloc (.cells #[.int .i64 X] 3)).cell? ⟨w.heap.size + 1, 4, none⟩ = some v := (World.cell?_alloc_lt wr _ ⟨w.heap.size + 1, 4, none⟩ (by show w.heap.size + 1 < _; omega)).trans cy
          go_upto_region 9 with fail
          go_region_law (first | (refine step_app Try.underlying40 hi hz0 hz1 hz2 rfl (by decide) rfl (.tmp 53) (.tmp 60) rfl wz.heap.size _ _ _ rfl ((HW.out.alloc (.cells #[.int .i64 X] 3))) _ 1 [.int .i64 X] rfl (SR.lit _ _ #[.int .i64 X] 1 1 (by decide) rfl) (fun y hy => by simp at hy; subst hy; rfl) (by unfold maxLen; omega) (by omega) (by simp; omega) ?_; intro v2 w2 own2 hg2; obtain ⟨a2, p2, rfl⟩ := owns_form own2; have y2 := grown_block hg2 rfl HYr.out hneY; have c2 : w2.cell? ⟨w.heap.size + 1, 4, none⟩ = some v := (by simp [World.cell?, y2]); have f2 : w2.frozen? ⟨w.heap.size + 1, 4, none⟩ = false := (by simp [World.frozen?, y2])))
          all_goals
            have Y2 := Lib.hid y2
            have O2 := Lib.hid (own2)
            have G2 := Lib.hid (grown_only hg2 ⟨rfl, rfl, rfl, rfl⟩ HO.out (fun q hq => (HW.out.lt q hq).1))
            clear y2 c2 f2 own2 hg2 ny
            go_wp2_with fail
            go_roundw
            case rel => exact ⟨j + 1, by omega, by omega, by go_num, _, heap_set_self Y2.out 4 _, by rw [← HS.out]; exact owns_kept O2.out ((Only.refl _ _).set 4 _) (by omega), G2.out.set 4 _⟩
            case measure => simp [intOf]; omega
        · have hl : (low4 C).length = j := by rw [low4_len]; omega
          have hk : (C.take j).map (· % 8) = low4 C := by
            unfold low4
            rcases Nat.lt_or_ge 4 C.length with h | h
            · rw [show j = 4 by omega]
            · rw [show j = C.length by omega, List.take_length, List.take_of_length_le (by omega)]
          have FO := Lib.hid (show SecondOf (w.heap.size + 1) E G K v1 C wz wr from ⟨v, hY, by rw [hl, ← hk]; exact hown, hon⟩)
          have hout : ¬ (j < C.length) ∨ (j < C.length ∧ ¬ ((j : Int) < 4)) := by omega
          have cx : wr.cell? ⟨w.heap.size, 4, none⟩ = some (.slice ca C.length cc) := by simp [World.cell?, hXr]
          clear hY hown hon hXr hin hl hk
          rcases hout with ho | ⟨ho, ho2⟩
          all_goals
            go_wp2_with fail
            go_meet
            exact FO.out
    case rest =>
      obtain ⟨v2, hY, hown2, hon2⟩ := hcut
      have hXr := (hon2.block w.heap.size (by omega) (by omega)).trans HX2.out
      have hown1 := owns_kept HR1.out hon2 (by omega)
      have z2 := hon2.size
      have hB3 := HB2.out.trans (hon2.below (by omega) (by omega))
      obtain ⟨wy, hwy⟩ : ∃ wy, wy = wc := ⟨_, rfl⟩
      subst hwy
      obtain ⟨a1, p1, rfl⟩ := owns_form hown1
      obtain ⟨a2, p2, rfl⟩ := owns_form hown2
      have S1 := Lib.hid (show SRO (w.heap.size + 1) wy _ 1 _ (nCells (low4 M)) from fun wz ho => SR.owns (owns_kept hown1 ho (by omega)))
      have S2 := Lib.hid (show SRO (w.heap.size + 1) wy _ 1 _ (nCells (low4 C)) from fun wz ho => SR.owns (owns_kept hown2 ho (by omega)))
      have HX3 := Lib.hid hXr
      have HY3 := Lib.hid hY
      have HB3 := Lib.hid hB3
      have y3 : wy.cell? ⟨w.heap.size + 1, 3, none⟩ = some (.slice a1 (low4 M).length p1) := by simp [World.cell?, hY]
      have y4 : wy.cell? ⟨w.heap.size + 1, 4, none⟩ = some (.slice a2 (low4 C).length p2) := by simp [World.cell?, hY]
      have cl := lists_any _ _ (low4 M) (low4 C) wy S1.out.now S2.out.now
      clear hXr hY hown1 hown2 hon2 hB3 HX2 HY2 HR1 HB2
      have hm3 := mask3 odd
      have hm15 := mask15 odd
      obtain ⟨r, hr⟩ : ∃ r, r = (nodesB (low4 M) 0 && nodesB (low4 C) 1) := ⟨_, rfl⟩
      obtain ⟨T, hT⟩ : ∃ T, T = odd % 4 := ⟨_, rfl⟩
      obtain ⟨U, hU⟩ : ∃ T, T = odd % 16 := ⟨_, rfl⟩
      rw [← hr] at cl
      rw [← hT] at hm3
      rw [← hU] at hm15
      have HRTU := Lib.hid (And.intro hr (And.intro hT hU))
      clear hr hT hU
      go_upto_region 10 with fail
      go_cut [73] (fun s wx => s = .bool (!r && !decide (T = 0)) ∧ SameHeap wy wx)
      case first =>
        by_cases hT : T = 0
        · subst hT
          cases r
          all_goals
            go_wp2_with fail
            refine Calls.mono cl ?_
            rintro e1 w3 ⟨rfl, nd, rfl⟩
            go_wp2_with fail
            go_meet
            exact ⟨by simp, rfl, rfl, rfl, rfl⟩
        · cases r
          all_goals
            go_wp2_with fail
            refine Calls.mono cl ?_
            rintro e1 w3 ⟨rfl, nd, rfl⟩
            go_wp2_with fail
            go_meet
            exact ⟨by simp [hT], rfl, rfl, rfl, rfl⟩
      case rest =>
        obtain ⟨rfl, hsh⟩ := hcut
        have hXr := HX3.out
        have hYr := HY3.out
        rw [← hsh.1] at hXr hYr
        have q1 := S1.out.only (only_same hsh)
        have q2 := S2.out.only (only_same hsh)
        have q3 := below_same HB3.out hsh
        have szc : w.heap.size + 1 < wc.heap.size := lt_heap hYr
        clear y3 y4 cl S1 S2 HX3 HY3 HB3 hsh
        go_upto_if 73 with fail
        obtain ⟨bad, hbad⟩ : ∃ x, x = (!r && !decide (T = 0)) := ⟨_, rfl⟩
        rw [← hbad]
        have HBAD := Lib.hid hbad
        clear hbad hm3
        go_cut [] (fun wx => MidOf w.heap.size E G K (if bad then [b / 2 % 4] else low4 M) (if bad then [b / 8 % 4, 4] else low4 C) (confA e b k (.slice ma M.length mc) (.slice ca C.length cc)) w wx)
        case first =>
          cases bad
          · have MO := Lib.hid (show MidOf w.heap.size E G K (low4 M) (low4 C) (confA e b k (.slice ma M.length mc) (.slice ca C.length cc)) w wc from ⟨_, _, hXr, hYr, q1, q2, q3⟩)
            clear hXr hYr q1 q2 q3
            go_wp2_with fail
            go_meet
            exact MO.out
          · have xb : wc.cell? ⟨w.heap.size, 1, none⟩ = some (.int .i64 b) := by simp [World.cell?, hXr]
            have y3 : wc.cell? ⟨w.heap.size + 1, 3, none⟩ = some (.slice a1 (low4 M).length p1) := by simp [World.cell?, hYr]
            have y4 : wc.cell? ⟨w.heap.size + 1, 4, none⟩ = some (.slice a2 (low4 C).length p2) := by simp [World.cell?, hYr]
            have fy : ∀ j, wc.frozen? ⟨w.heap.size + 1, j, none⟩ = false := fun j => by simp [World.frozen?, hYr]
            have hx01 : ∀ O, (wc.alloc O).heap[w.heap.size]? = some _ := fun O => ((Below.heap_alloc wc O _ (by omega)).trans hXr)
            have hy01 : ∀ O, (wc.alloc O).heap[w.heap.size + 1]? = some _ := fun O => ((Below.heap_alloc wc O _ (by omega)).trans hYr)
            have cx01 : ∀ O, (wc.alloc O).cell? ⟨w.heap.size, 1, none⟩ = some (.int .i64 b) := fun O => by simp [World.cell?, hx01]
            have fy01 : ∀ (O : Obj) (j : Nat), (wc.alloc O).frozen? ⟨w.heap.size + 1, j, none⟩ = false := fun O j => by simp [World.frozen?, hy01]
            have cy013 : ∀ O, (wc.alloc O).cell? ⟨w.heap.size + 1, 3, none⟩ = some (.slice a1 (low4 M).length p1) := fun O => by simp [World.cell?, hy01]
            have cy014 : ∀ O, (wc.alloc O).cell? ⟨w.heap.size + 1, 4, none⟩ = some (.slice a2 (low4 C).length p2) := fun O => by simp [World.cell?, hy01]
            have hx02 : ∀ O OO, ((wc.alloc O).alloc OO).heap[w.heap.size]? = some _ := fun O OO => ((Below.heap_alloc (wc.alloc O) OO _ (by simp; omega)).trans ((Below.heap_alloc wc O _ (by omega)).trans hXr))
            have hy02 : ∀ O OO, ((wc.alloc O).alloc OO).heap[w.heap.size + 1]? = some _ := fun O OO => ((Below.heap_alloc (wc.alloc O) OO _ (by simp; omega)).trans ((Below.heap_alloc wc O _ (by omega)).trans hYr))
            have cx02 : ∀ O OO, ((wc.alloc O).alloc OO).cell? ⟨w.heap.size, 1, none⟩ = some (.int .i64 b) := fun O OO => by simp [World.cell?, hx02]
            have fy02 : ∀ (O : Obj) (OO : Obj) (j : Nat), ((wc.alloc O).alloc OO).frozen? ⟨w.heap.size + 1, j, none⟩ = false := fun O OO j => by simp [World.frozen?, hy02]
            have cy023 : ∀ O OO, ((wc.alloc O).alloc OO).cell? ⟨w.heap.size + 1, 3, none⟩ = some (.slice a1 (low4 M).length p1) := fun O OO => by simp [World.cell?, hy02]
            have cy024 : ∀ O OO, ((wc.alloc O).alloc OO).cell? ⟨w.heap.size + 1, 4, none⟩ = some (.slice a2 (low4 C).length p2) := fun O OO => by simp [World.cell?, hy02]
            have hx10 : ∀ i v , (wc.setCell ⟨w.heap.size + 1, i, none⟩ v).heap[w.heap.size]? = some _ := fun i v  => ((Below.heap_setCell _ _ _ _ (by simp)).trans hXr)
            have hy10 : ∀ i v , (wc.setCell ⟨w.heap.size + 1, i, none⟩ v).heap[w.heap.size + 1]? = some _ := fun i v  => (heap_set_self hYr i v)
            have cx10 : ∀ i v , (wc.setCell ⟨w.heap.size + 1, i, none⟩ v).cell? ⟨w.heap.size, 1, none⟩ = some (.int .i64 b) := fun i v  => by simp [World.cell?, hx10]
            have fy10 : ∀ (i : Nat) (v : Value) (j : Nat), (wc.setCell ⟨w.heap.size + 1, i, none⟩ v).frozen? ⟨w.heap.size + 1, j, none⟩ = false := fun i v  j => by simp [World.frozen?, hy10]
            have cy103 : ∀ v , (wc.setCell ⟨w.heap.size + 1, 4, none⟩ v).cell? ⟨w.heap.size + 1, 3, none⟩ = some (.slice a1 (low4 M).length p1) := fun v  => by simp [World.cell?, hy10]
            have cy104 : ∀ v , (wc.setCell ⟨w.heap.size + 1, 3, none⟩ v).cell? ⟨w.heap.size + 1, 4, none⟩ = some (.slice a2 (low4 C).length p2) := fun v  => by simp [World.cell?, hy10]
            have hx11 : ∀ i v O, ((wc.setCell ⟨w.heap.size + 1, i, none⟩ v).alloc O).heap[w.heap.size]? = some _ := fun i v O => ((Below.heap_alloc (wc.setCell ⟨w.heap.size + 1, i, none⟩ v) O _ (by simp; omega)).trans ((Below.heap_setCell _ _ _ _ (by simp)).trans hXr))
            have hy11 : ∀ i v O, ((wc.setCell ⟨w.heap.size + 1, i, none⟩ v).alloc O).heap[w.heap.size + 1]? = some _ := fun i v O => ((Below.heap_alloc (wc.setCell ⟨w.heap.size + 1, i, none⟩ v) O _ (by simp; omega)).trans (heap_set_self hYr i v))
            have cx11 : ∀ i v O, ((wc.setCell ⟨w.heap.size + 1, i, none⟩ v).alloc O).cell? ⟨w.heap.size, 1, none⟩ = some (.int .i64 b) := fun i v O => by simp [World.cell?, hx11]
            have fy11 : ∀ (i : Nat) (v : Value) (O : Obj) (j : Nat), ((wc.setCell ⟨w.heap.size + 1, i, none⟩ v).alloc O).frozen? ⟨w.heap.size + 1, j, none⟩ = false := fun i v O j => by simp [World.frozen?, hy11]
            have cy113 : ∀ v O, ((wc.setCell ⟨w.heap.size + 1, 4, none⟩ v).alloc O).cell? ⟨w.heap.size + 1, 3, none⟩ = some (.slice a1 (low4 M).length p1) := fun v O => by simp [World.cell?, hy11]
            have cy114 : ∀ v O, ((wc.setCell ⟨w.heap.size + 1, 3, none⟩ v).alloc O).cell? ⟨w.heap.size + 1, 4, none⟩ = some (.slice a2 (low4 C).length p2) := fun v O => by simp [World.cell?, hy11]
            have hx12 : ∀ i v O OO, (((wc.setCell ⟨w.heap.size + 1, i, none⟩ v).alloc O).alloc OO).heap[w.heap.size]? = some _ := fun i v O OO => ((Below.heap_alloc ((wc.setCell ⟨w.heap.size + 1, i, none⟩ v).alloc O) OO _ (by simp; omega)).trans ((Below.heap_alloc (wc.setCell ⟨w.heap.size + 1, i, none⟩ v) O _ (by simp; omega)).trans ((Below.heap_setCell _ _ _ _ (by simp)).trans hXr)))
            have hy12 : ∀ i v O OO, (((wc.setCell ⟨w.heap.size + 1, i, none⟩ v).alloc O).alloc OO).heap[w.heap.size + 1]? = some _ := fun i v O OO => ((Below.heap_alloc ((wc.setCell ⟨w.heap.size + 1, i, none⟩ v).alloc O) OO _ (by simp; omega)).trans ((Below.heap_alloc (wc.setCell ⟨w.heap.size + 1, i, none⟩ v) O _ (by simp; omega)).trans (heap_set_self hYr i v)))
            have cx12 : ∀ i v O OO, (((wc.setCell ⟨w.heap.size + 1, i, none⟩ v).alloc O).alloc OO).cell? ⟨w.heap.size, 1, none⟩ = some (.int .i64 b) := fun i v O OO => by simp [World.cell?, hx12]
            have fy12 : ∀ (i : Nat) (v : Value) (O : Obj) (OO : Obj) (j : Nat), (((wc.setCell ⟨w.heap.size + 1, i, none⟩ v).alloc O).alloc OO).frozen? ⟨w.heap.size + 1, j, none⟩ = false := fun i v O OO j => by simp [World.frozen?, hy12]
            have cy123 : ∀ v O OO, (((wc.setCell ⟨w.heap.size + 1, 4, none⟩ v).alloc O).alloc OO).cell? ⟨w.heap.size + 1, 3, none⟩ = some (.slice a1 (low4 M).length p1) := fun v O OO => by simp [World.cell?, hy12]
            have cy124 : ∀ v O OO, (((wc.setCell ⟨w.heap.size + 1, 3, none⟩ v).alloc O).alloc OO).cell? ⟨w.heap.size + 1, 4, none⟩ = some (.slice a2 (low4 C).length p2) := fun v O OO => by simp [World.cell?, hy12]
            clear hx01 hy01 hx02 hy02 hx10 hy10 hx11 hy11 hx12 hy12
            have HXX := Lib.hid (show wc.heap[w.heap.size]? = some (.cells (confA e b k (.slice ma M.length mc) (.slice ca C.length cc)) 42) from hXr)
            have HYY := Lib.hid hYr
            have H3 := Lib.hid q3
            clear hXr hYr q1 q2 q3
            go_wp2_with fail
            have mb2 := mask3 (b / 2)
            have mb8 := mask3 (b / 8)
            go_region
            all_goals
              clear cx01 fy01 cy013 cy014 cx02 fy02 cy023 cy024 cx10 fy10 cy103 cy104 cx11 fy11 cy113 cy114 cx12 fy12 cy123 cy124 xb y3 y4 fy mb2 mb8
              go_wp2_with fail
              go_meet
              simp only [if_true]
              first | with_reducible exact mid_way1 HXX.out HYY.out H3.out (Nat.le_refl _) | with_reducible exact mid_way2 HXX.out HYY.out H3.out (Nat.le_refl _) | with_reducible exact mid_way3 HXX.out HYY.out H3.out (Nat.le_refl _) | trace_state
        case rest =>
          obtain ⟨w1', w2', hX, hY, hs1, hs2, hb⟩ := hcut
          obtain ⟨x1, y1, rfl, -, -⟩ := hs1.now.form
          obtain ⟨x2, y2, rfl, -, -⟩ := hs2.now.form
          have HS1 := Lib.hid hs1
          have HS2 := Lib.hid hs2
          have HBB := Lib.hid hb
          have HYY := Lib.hid hY
          clear hs1 hs2 hb
          obtain ⟨L1, hL1⟩ : ∃ L, L = (if bad then [b / 2 % 4] else low4 M) := ⟨_, rfl⟩
          obtain ⟨L2, hL2⟩ : ∃ L, L = (if bad then [b / 8 % 4, 4] else low4 C) := ⟨_, rfl⟩
          rw [← hL1] at HS1
          rw [← hL2] at HS2
          simp only [← hL1, ← hL2] at HYY hY
          have HLL := Lib.hid (And.intro hL1 hL2)
          clear hL1 hL2 hXr hYr q1 q2 q3
          have x0 : wc.cell? ⟨w.heap.size, 0, none⟩ = some (.int .i64 e) := by simp [World.cell?, hX, confA]
          have xb : wc.cell? ⟨w.heap.size, 1, none⟩ = some (.int .i64 b) := by simp [World.cell?, hX, confA]
          have c0 : wc.cell? ⟨w.heap.size + 1, 0, none⟩ = some (.int .i64 E) := by simp [World.cell?, hY]
          have c1 : wc.cell? ⟨w.heap.size + 1, 1, none⟩ = some (.int .i64 G) := by simp [World.cell?, hY]
          have c2 : wc.cell? ⟨w.heap.size + 1, 2, none⟩ = some (.int .i64 K) := by simp [World.cell?, hY]
          have c3 : wc.cell? ⟨w.heap.size + 1, 3, none⟩ = some (.slice x1 L1.length y1) := by simp [World.cell?, hY]
          have c4 : wc.cell? ⟨w.heap.size + 1, 4, none⟩ = some (.slice x2 L2.length y2) := by simp [World.cell?, hY]
          have fy : ∀ j, wc.frozen? ⟨w.heap.size + 1, j, none⟩ = false := fun j => by simp [World.frozen?, hY]
          clear hX hY
          have hU : U = 4 ∨ U = 8 ∨ U = 12 ∨ ((U == 4) = false ∧ (U == 8) = false ∧ (U == 12) = false) := by
            by_cases h4 : U = 4
            · exact .inl h4
            by_cases h8 : U = 8
            · exact .inr (.inl h8)
            by_cases h12 : U = 12
            · exact .inr (.inr (.inl h12))
            · exact .inr (.inr (.inr ⟨by simp [h4], by simp [h8], by simp [h12]⟩))
          rcases hU with rfl | rfl | rfl | ⟨h4, h8, h12⟩
          · go_upto_region 19 with fail
            have hq : (((((wc.setCell ⟨w.heap.size + 1, 0, none⟩ (.int .i64 0)).setCell ⟨w.heap.size + 1, 1, none⟩ (.int .i64 0)).setCell ⟨w.heap.size + 1, 2, none⟩ (.int .i64 0)).setCell ⟨w.heap.size + 1, 3, none⟩ (.slice none 0 0)).setCell ⟨w.heap.size + 1, 4, none⟩ (.slice none 0 0)).heap[w.heap.size + 1]? = some (.cells #[.int .i64 0, .int .i64 0, .int .i64 0, .slice none 0 0, .slice none 0 0] 42) := heap_set_self (heap_set_self (heap_set_self (heap_set_self (heap_set_self HYY.out 0 _) 1 _) 2 _) 3 _) 4 _
            have HO := Lib.hid (show Only (w.heap.size + 1) wc (((((wc.setCell ⟨w.heap.size + 1, 0, none⟩ (.int .i64 0)).setCell ⟨w.heap.size + 1, 1, none⟩ (.int .i64 0)).setCell ⟨w.heap.size + 1, 2, none⟩ (.int .i64 0)).setCell ⟨w.heap.size + 1, 3, none⟩ (.slice none 0 0)).setCell ⟨w.heap.size + 1, 4, none⟩ (.slice none 0 0)) from (((((Only.refl _ _).set 0 _).set 1 _).set 2 _).set 3 _).set 4 _)
            clear c0 c1 c2 c3 c4 fy x0 xb
            generalize (((((wc.setCell ⟨w.heap.size + 1, 0, none⟩ (.int .i64 0)).setCell ⟨w.heap.size + 1, 1, none⟩ (.int .i64 0)).setCell ⟨w.heap.size + 1, 2, none⟩ (.int .i64 0)).setCell ⟨w.heap.size + 1, 3, none⟩ (.slice none 0 0)).setCell ⟨w.heap.size + 1, 4, none⟩ (.slice none 0 0)) = wq at *
            have d0 : wq.cell? ⟨w.heap.size + 1, 0, none⟩ = some (.int .i64 0) := by simp [World.cell?, hq]
            have d1 : wq.cell? ⟨w.heap.size + 1, 1, none⟩ = some (.int .i64 0) := by simp [World.cell?, hq]
            have d2 : wq.cell? ⟨w.heap.size + 1, 2, none⟩ = some (.int .i64 0) := by simp [World.cell?, hq]
            have d3 : wq.cell? ⟨w.heap.size + 1, 3, none⟩ = some (.slice none 0 0) := by simp [World.cell?, hq]
            have d4 : wq.cell? ⟨w.heap.size + 1, 4, none⟩ = some (.slice none 0 0) := by simp [World.cell?, hq]
            have gq : ∀ j, wq.frozen? ⟨w.heap.size + 1, j, none⟩ = false := fun j => by simp [World.frozen?, hq]
            have FI := Lib.hid (show (((((wq.setCell ⟨w.heap.size + 1, 0, none⟩ (.int .i64 0)).setCell ⟨w.heap.size + 1, 1, none⟩ (.int .i64 0)).setCell ⟨w.heap.size + 1, 2, none⟩ (.int .i64 0)).setCell ⟨w.heap.size + 1, 3, none⟩ (.slice none 0 0)).setCell ⟨w.heap.size + 1, 4, none⟩ (.slice none 0 0)).heap[w.heap.size + 1]? = some (.cells #[.int .i64 0, .int .i64 0, .int .i64 0, .slice none 0 0, .slice none 0 0] 42) from heap_set_self (heap_set_self (heap_set_self (heap_set_self (heap_set_self hq 0 _) 1 _) 2 _) 3 _) 4 _)
            have FO := Lib.hid (show Only (w.heap.size + 1) wq (((((wq.setCell ⟨w.heap.size + 1, 0, none⟩ (.int .i64 0)).setCell ⟨w.heap.size + 1, 1, none⟩ (.int .i64 0)).setCell ⟨w.heap.size + 1, 2, none⟩ (.int .i64 0)).setCell ⟨w.heap.size + 1, 3, none⟩ (.slice none 0 0)).setCell ⟨w.heap.size + 1, 4, none⟩ (.slice none 0 0)) from (((((Only.refl _ _).set 0 _).set 1 _).set 2 _).set 3 _).set 4 _)
            clear hq
            go_wp2_with fail
            generalize (((((wq.setCell ⟨w.heap.size + 1, 0, none⟩ (.int .i64 0)).setCell ⟨w.heap.size + 1, 1, none⟩ (.int .i64 0)).setCell ⟨w.heap.size + 1, 2, none⟩ (.int .i64 0)).setCell ⟨w.heap.size + 1, 3, none⟩ (.slice none 0 0)).setCell ⟨w.heap.size + 1, 4, none⟩ (.slice none 0 0)) = wf at *
            have fi := FI.out
            have s0 : wf.cell? ⟨w.heap.size + 1, 0, none⟩ = some (.int .i64 0) := by simp [World.cell?, fi]
            have s1 : wf.cell? ⟨w.heap.size + 1, 1, none⟩ = some (.int .i64 0) := by simp [World.cell?, fi]
            have s2 : wf.cell? ⟨w.heap.size + 1, 2, none⟩ = some (.int .i64 0) := by simp [World.cell?, fi]
            have s3 : wf.cell? ⟨w.heap.size + 1, 3, none⟩ = some (.slice none 0 0) := by simp [World.cell?, fi]
            have s4 : wf.cell? ⟨w.heap.size + 1, 4, none⟩ = some (.slice none 0 0) := by simp [World.cell?, fi]
            clear fi
            refine bodyPost_ret (v := .agg #[.int .i64 0, .int .i64 0, .int .i64 0, .slice none 0 0, .slice none 0 0]) (by simp [results, Try.results56, go_sem, s0, s1, s2, s3, s4]) rfl ?_
            obtain ⟨hE, hG, hK⟩ := HEGK.out
            obtain ⟨hr, hT, hU⟩ := HRTU.out
            obtain ⟨hl1, hl2⟩ := HLL.out
            have hbad : bad = badN M C odd := by rw [HBAD.out, hr, hT]; rfl
            rw [hbad] at hl1 hl2
            have hof := HO.out.trans FO.out
            have hbf := HBB.out.trans (hof.below (B := w.heap.size) (by omega) HBB.out.size)
            have u4 : odd % 16 = 4 := hU.symm
            have e1 : nearE e odd = 0 := by unfold nearE; rw [if_pos u4]
            have e2 : nearB b odd = 0 := by unfold nearB; rw [if_pos u4]
            have e3 : nearK k odd = 0 := by unfold nearK; rw [if_pos u4]
            have e4 : nearM b odd M C = [] := by unfold nearM; rw [if_pos u4]
            have e5 : nearC b odd M C = [] := by unfold nearC; rw [if_pos u4]
            unfold NearPost
            rw [e1, e2, e3, e4, e5]
            exact ⟨.slice none 0 0, .slice none 0 0, rfl, SR.nil_ _ _, SR.nil_ _ _, hbf⟩
          · go_upto_region 19 with fail
            have hq : (wc.setCell ⟨w.heap.size + 1, 1, none⟩ (.int .i64 b)).heap[w.heap.size + 1]? = some (.cells #[.int .i64 E, .int .i64 b, .int .i64 K, .slice x1 L1.length y1, .slice x2 L2.length y2] 42) := heap_set_self HYY.out 1 _
            have HO := Lib.hid (show Only (w.heap.size + 1) wc (wc.setCell ⟨w.heap.size + 1, 1, none⟩ (.int .i64 b)) from (Only.refl _ _).set 1 _)
            clear c0 c1 c2 c3 c4 fy x0 xb
            generalize (wc.setCell ⟨w.heap.size + 1, 1, none⟩ (.int .i64 b)) = wq at *
            have d0 : wq.cell? ⟨w.heap.size + 1, 0, none⟩ = some (.int .i64 E) := by simp [World.cell?, hq]
            have d1 : wq.cell? ⟨w.heap.size + 1, 1, none⟩ = some (.int .i64 b) := by simp [World.cell?, hq]
            have d2 : wq.cell? ⟨w.heap.size + 1, 2, none⟩ = some (.int .i64 K) := by simp [World.cell?, hq]
            have d3 : wq.cell? ⟨w.heap.size + 1, 3, none⟩ = some (.slice x1 L1.length y1) := by simp [World.cell?, hq]
            have d4 : wq.cell? ⟨w.heap.size + 1, 4, none⟩ = some (.slice x2 L2.length y2) := by simp [World.cell?, hq]
            have gq : ∀ j, wq.frozen? ⟨w.heap.size + 1, j, none⟩ = false := fun j => by simp [World.frozen?, hq]
            have FI := Lib.hid (show (((((wq.setCell ⟨w.heap.size + 1, 0, none⟩ (.int .i64 E)).setCell ⟨w.heap.size + 1, 1, none⟩ (.int .i64 b)).setCell ⟨w.heap.size + 1, 2, none⟩ (.int .i64 K)).setCell ⟨w.heap.size + 1, 3, none⟩ (.slice x1 L1.length y1)).setCell ⟨w.heap.size + 1, 4, none⟩ (.slice x2 L2.length y2)).heap[w.heap.size + 1]? = some (.cells #[.int .i64 E, .int .i64 b, .int .i64 K, .slice x1 L1.length y1, .slice x2 L2.length y2] 42) from heap_set_self (heap_set_self (heap_set_self (heap_set_self (heap_set_self hq 0 _) 1 _) 2 _) 3 _) 4 _)
            have FO := Lib.hid (show Only (w.heap.size + 1) wq (((((wq.setCell ⟨w.heap.size + 1, 0, none⟩ (.int .i64 E)).setCell ⟨w.heap.size + 1, 1, none⟩ (.int .i64 b)).setCell ⟨w.heap.size + 1, 2, none⟩ (.int .i64 K)).setCell ⟨w.heap.size + 1, 3, none⟩ (.slice x1 L1.length y1)).setCell ⟨w.heap.size + 1, 4, none⟩ (.slice x2 L2.length y2)) from (((((Only.refl _ _).set 0 _).set 1 _).set 2 _).set 3 _).set 4 _)
            clear hq
            go_wp2_with fail
            generalize (((((wq.setCell ⟨w.heap.size + 1, 0, none⟩ (.int .i64 E)).setCell ⟨w.heap.size + 1, 1, none⟩ (.int .i64 b)).setCell ⟨w.heap.size + 1, 2, none⟩ (.int .i64 K)).setCell ⟨w.heap.size + 1, 3, none⟩ (.slice x1 L1.length y1)).setCell ⟨w.heap.size + 1, 4, none⟩ (.slice x2 L2.length y2)) = wf at *
            have fi := FI.out
            have s0 : wf.cell? ⟨w.heap.size + 1, 0, none⟩ = some (.int .i64 E) := by simp [World.cell?, fi]
            have s1 : wf.cell? ⟨w.heap.size + 1, 1, none⟩ = some (.int .i64 b) := by simp [World.cell?, fi]
            have s2 : wf.cell? ⟨w.heap.size + 1, 2, none⟩ = some (.int .i64 K) := by simp [World.cell?, fi]
            have s3 : wf.cell? ⟨w.heap.size + 1, 3, none⟩ = some (.slice x1 L1.length y1) := by simp [World.cell?, fi]
            have s4 : wf.cell? ⟨w.heap.size + 1, 4, none⟩ = some (.slice x2 L2.length y2) := by simp [World.cell?, fi]
            clear fi
            refine bodyPost_ret (v := .agg #[.int .i64 E, .int .i64 b, .int .i64 K, .slice x1 L1.length y1, .slice x2 L2.length y2]) (by simp [results, Try.results56, go_sem, s0, s1, s2, s3, s4]) rfl ?_
            obtain ⟨hE, hG, hK⟩ := HEGK.out
            obtain ⟨hr, hT, hU⟩ := HRTU.out
            obtain ⟨hl1, hl2⟩ := HLL.out
            have hbad : bad = badN M C odd := by rw [HBAD.out, hr, hT]; rfl
            rw [hbad] at hl1 hl2
            have hof := HO.out.trans FO.out
            have hbf := HBB.out.trans (hof.below (B := w.heap.size) (by omega) HBB.out.size)
            have u4 : ¬ (odd % 16 = 4) := by omega
            have u8 :  (odd % 16 = 8) := by omega
            have u12 : ¬ (odd % 16 = 12) := by omega
            have m1 : L1 = nearM b odd M C := by unfold nearM; rw [if_neg u4]; exact hl1
            have m2 : L2 = nearC b odd M C := by unfold nearC; rw [if_neg u4]; exact hl2
            have e1 : nearE e odd = E := by unfold nearE; rw [if_neg u4, if_neg u12]; exact hE.symm
            have e2 : nearB b odd = b := by unfold nearB; rw [if_neg u4, if_pos u8]
            have e3 : nearK k odd = K := by unfold nearK; rw [if_neg u4]; exact hK.symm
            unfold NearPost
            rw [e1, e2, e3, ← m1, ← m2]
            exact ⟨.slice x1 L1.length y1, .slice x2 L2.length y2, rfl, HS1.out _ hof, HS2.out _ hof, hbf⟩
          · go_upto_region 19 with fail
            have hq : (wc.setCell ⟨w.heap.size + 1, 0, none⟩ (.int .i64 e)).heap[w.heap.size + 1]? = some (.cells #[.int .i64 e, .int .i64 G, .int .i64 K, .slice x1 L1.length y1, .slice x2 L2.length y2] 42) := heap_set_self HYY.out 0 _
            have HO := Lib.hid (show Only (w.heap.size + 1) wc (wc.setCell ⟨w.heap.size + 1, 0, none⟩ (.int .i64 e)) from (Only.refl _ _).set 0 _)
            clear c0 c1 c2 c3 c4 fy x0 xb
            generalize (wc.setCell ⟨w.heap.size + 1, 0, none⟩ (.int .i64 e)) = wq at *
            have d0 : wq.cell? ⟨w.heap.size + 1, 0, none⟩ = some (.int .i64 e) := by simp [World.cell?, hq]
            have d1 : wq.cell? ⟨w.heap.size + 1, 1, none⟩ = some (.int .i64 G) := by simp [World.cell?, hq]
            have d2 : wq.cell? ⟨w.heap.size + 1, 2, none⟩ = some (.int .i64 K) := by simp [World.cell?, hq]
            have d3 : wq.cell? ⟨w.heap.size + 1, 3, none⟩ = some (.slice x1 L1.length y1) := by simp [World.cell?, hq]
            have d4 : wq.cell? ⟨w.heap.size + 1, 4, none⟩ = some (.slice x2 L2.length y2) := by simp [World.cell?, hq]
            have gq : ∀ j, wq.frozen? ⟨w.heap.size + 1, j, none⟩ = false := fun j => by simp [World.frozen?, hq]
            have FI := Lib.hid (show (((((wq.setCell ⟨w.heap.size + 1, 0, none⟩ (.int .i64 e)).setCell ⟨w.heap.size + 1, 1, none⟩ (.int .i64 G)).setCell ⟨w.heap.size + 1, 2, none⟩ (.int .i64 K)).setCell ⟨w.heap.size + 1, 3, none⟩ (.slice x1 L1.length y1)).setCell ⟨w.heap.size + 1, 4, none⟩ (.slice x2 L2.length y2)).heap[w.heap.size + 1]? = some (.cells #[.int .i64 e, .int .i64 G, .int .i64 K, .slice x1 L1.length y1, .slice x2 L2.length y2] 42) from heap_set_self (heap_set_self (heap_set_self (heap_set_self (heap_set_self hq 0 _) 1 _) 2 _) 3 _) 4 _)
            have FO := Lib.hid (show Only (w.heap.size + 1) wq (((((wq.setCell ⟨w.heap.size + 1, 0, none⟩ (.int .i64 e)).setCell ⟨w.heap.size + 1, 1, none⟩ (.int .i64 G)).setCell ⟨w.heap.size + 1, 2, none⟩ (.int .i64 K)).setCell ⟨w.heap.size + 1, 3, none⟩ (.slice x1 L1.length y1)).setCell ⟨w.heap.size + 1, 4, none⟩ (.slice x2 L2.length y2)) from (((((Only.refl _ _).set 0 _).set 1 _).set 2 _).set 3 _).set 4 _)
            clear hq
            go_wp2_with fail
            generalize (((((wq.setCell ⟨w.heap.size + 1, 0, none⟩ (.int .i64 e)).setCell ⟨w.heap.size + 1, 1, none⟩ (.int .i64 G)).setCell ⟨w.heap.size + 1, 2, none⟩ (.int .i64 K)).setCell ⟨w.heap.size + 1, 3, none⟩ (.slice x1 L1.length y1)).setCell ⟨w.heap.size + 1, 4, none⟩ (.slice x2 L2.length y2)) = wf at *
            have fi := FI.out
            have s0 : wf.cell? ⟨w.heap.size + 1, 0, none⟩ = some (.int .i64 e) := by simp [World.cell?, fi]
            have s1 : wf.cell? ⟨w.heap.size + 1, 1, none⟩ = some (.int .i64 G) := by simp [World.cell?, fi]
            have s2 : wf.cell? ⟨w.heap.size + 1, 2, none⟩ = some (.int .i64 K) := by simp [World.cell?, fi]
            have s3 : wf.cell? ⟨w.heap.size + 1, 3, none⟩ = some (.slice x1 L1.length y1) := by simp [World.cell?, fi]
            have s4 : wf.cell? ⟨w.heap.size + 1, 4, none⟩ = some (.slice x2 L2.length y2) := by simp [World.cell?, fi]
            clear fi
            refine bodyPost_ret (v := .agg #[.int .i64 e, .int .i64 G, .int .i64 K, .slice x1 L1.length y1, .slice x2 L2.length y2]) (by simp [results, Try.results56, go_sem, s0, s1, s2, s3, s4]) rfl ?_
            obtain ⟨hE, hG, hK⟩ := HEGK.out
            obtain ⟨hr, hT, hU⟩ := HRTU.out
            obtain ⟨hl1, hl2⟩ := HLL.out
            have hbad : bad = badN M C odd := by rw [HBAD.out, hr, hT]; rfl
            rw [hbad] at hl1 hl2
            have hof := HO.out.trans FO.out
            have hbf := HBB.out.trans (hof.below (B := w.heap.size) (by omega) HBB.out.size)
            have u4 : ¬ (odd % 16 = 4) := by omega
            have u8 : ¬ (odd % 16 = 8) := by omega
            have u12 :  (odd % 16 = 12) := by omega
            have m1 : L1 = nearM b odd M C := by unfold nearM; rw [if_neg u4]; exact hl1
            have m2 : L2 = nearC b odd M C := by unfold nearC; rw [if_neg u4]; exact hl2
            have e1 : nearE e odd = e := by unfold nearE; rw [if_neg u4, if_pos u12]
            have e2 : nearB b odd = G := by unfold nearB; rw [if_neg u4, if_neg u8]; exact hG.symm
            have e3 : nearK k odd = K := by unfold nearK; rw [if_neg u4]; exact hK.symm
            unfold NearPost
            rw [e1, e2, e3, ← m1, ← m2]
            exact ⟨.slice x1 L1.length y1, .slice x2 L2.length y2, rfl, HS1.out _ hof, HS2.out _ hof, hbf⟩
          · go_upto_region 19 with fail
            have hq := HYY.out
            obtain ⟨wq, hwq⟩ : ∃ wq, wq = wc := ⟨_, rfl⟩
            have HO := Lib.hid (show Only (w.heap.size + 1) wc wq by rw [hwq]; exact Only.refl _ _)
            clear c0 c1 c2 c3 c4 fy x0 xb
            rw [← hwq] at hq ⊢
            clear hwq
            have d0 : wq.cell? ⟨w.heap.size + 1, 0, none⟩ = some (.int .i64 E) := by simp [World.cell?, hq]
            have d1 : wq.cell? ⟨w.heap.size + 1, 1, none⟩ = some (.int .i64 G) := by simp [World.cell?, hq]
            have d2 : wq.cell? ⟨w.heap.size + 1, 2, none⟩ = some (.int .i64 K) := by simp [World.cell?, hq]
            have d3 : wq.cell? ⟨w.heap.size + 1, 3, none⟩ = some (.slice x1 L1.length y1) := by simp [World.cell?, hq]
            have d4 : wq.cell? ⟨w.heap.size + 1, 4, none⟩ = some (.slice x2 L2.length y2) := by simp [World.cell?, hq]
            have gq : ∀ j, wq.frozen? ⟨w.heap.size + 1, j, none⟩ = false := fun j => by simp [World.frozen?, hq]
            have FI := Lib.hid (show (((((wq.setCell ⟨w.heap.size + 1, 0, none⟩ (.int .i64 E)).setCell ⟨w.heap.size + 1, 1, none⟩ (.int .i64 G)).setCell ⟨w.heap.size + 1, 2, none⟩ (.int .i64 K)).setCell ⟨w.heap.size + 1, 3, none⟩ (.slice x1 L1.length y1)).setCell ⟨w.heap.size + 1, 4, none⟩ (.slice x2 L2.length y2)).heap[w.heap.size + 1]? = some (.cells #[.int .i64 E, .int .i64 G, .int .i64 K, .slice x1 L1.length y1, .slice x2 L2.length y2] 42) from heap_set_self (heap_set_self (heap_set_self (heap_set_self (heap_set_self hq 0 _) 1 _) 2 _) 3 _) 4 _)
            have FO := Lib.hid (show Only (w.heap.size + 1) wq (((((wq.setCell ⟨w.heap.size + 1, 0, none⟩ (.int .i64 E)).setCell ⟨w.heap.size + 1, 1, none⟩ (.int .i64 G)).setCell ⟨w.heap.size + 1, 2, none⟩ (.int .i64 K)).setCell ⟨w.heap.size + 1, 3, none⟩ (.slice x1 L1.length y1)).setCell ⟨w.heap.size + 1, 4, none⟩ (.slice x2 L2.length y2)) from (((((Only.refl _ _).set 0 _).set 1 _).set 2 _).set 3 _).set 4 _)
            clear hq
            go_wp2_with fail
            generalize (((((wq.setCell ⟨w.heap.size + 1, 0, none⟩ (.int .i64 E)).setCell ⟨w.heap.size + 1, 1, none⟩ (.int .i64 G)).setCell ⟨w.heap.size + 1, 2, none⟩ (.int .i64 K)).setCell ⟨w.heap.size + 1, 3, none⟩ (.slice x1 L1.length y1)).setCell ⟨w.heap.size + 1, 4, none⟩ (.slice x2 L2.length y2)) = wf at *
            have fi := FI.out
            have s0 : wf.cell? ⟨w.heap.size + 1, 0, none⟩ = some (.int .i64 E) := by simp [World.cell?, fi]
            have s1 : wf.cell? ⟨w.heap.size + 1, 1, none⟩ = some (.int .i64 G) := by simp [World.cell?, fi]
            have s2 : wf.cell? ⟨w.heap.size + 1, 2, none⟩ = some (.int .i64 K) := by simp [World.cell?, fi]
            have s3 : wf.cell? ⟨w.heap.size + 1, 3, none⟩ = some (.slice x1 L1.length y1) := by simp [World.cell?, fi]
            have s4 : wf.cell? ⟨w.heap.size + 1, 4, none⟩ = some (.slice x2 L2.length y2) := by simp [World.cell?, fi]
            clear fi
            refine bodyPost_ret (v := .agg #[.int .i64 E, .int .i64 G, .int .i64 K, .slice x1 L1.length y1, .slice x2 L2.length y2]) (by simp [results, Try.results56, go_sem, s0, s1, s2, s3, s4]) rfl ?_
            obtain ⟨hE, hG, hK⟩ := HEGK.out
            obtain ⟨hr, hT, hU⟩ := HRTU.out
            obtain ⟨hl1, hl2⟩ := HLL.out
            have hbad : bad = badN M C odd := by rw [HBAD.out, hr, hT]; rfl
            rw [hbad] at hl1 hl2
            have hof := HO.out.trans FO.out
            have hbf := HBB.out.trans (hof.below (B := w.heap.size) (by omega) HBB.out.size)
            have u4 : ¬ (odd % 16 = 4) := by rw [← hU]; simpa using h4
            have u8 : ¬ (odd % 16 = 8) := by rw [← hU]; simpa using h8
            have u12 : ¬ (odd % 16 = 12) := by rw [← hU]; simpa using h12
            have m1 : L1 = nearM b odd M C := by unfold nearM; rw [if_neg u4]; exact hl1
            have m2 : L2 = nearC b odd M C := by unfold nearC; rw [if_neg u4]; exact hl2
            have e1 : nearE e odd = E := by unfold nearE; rw [if_neg u4, if_neg u12]; exact hE.symm
            have e2 : nearB b odd = G := by unfold nearB; rw [if_neg u4, if_neg u8]; exact hG.symm
            have e3 : nearK k odd = K := by unfold nearK; rw [if_neg u4]; exact hK.symm
            unfold NearPost
            rw [e1, e2, e3, ← m1, ← m2]
            exact ⟨.slice x1 L1.length y1, .slice x2 L2.length y2, rfl, HS1.out _ hof, HS2.out _ hof, hbf⟩
end Go.Proofs.Ytkdmnhmlkcejfaa
