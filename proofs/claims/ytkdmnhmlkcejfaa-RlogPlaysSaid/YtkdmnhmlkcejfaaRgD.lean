/-
  A log behind any place: an entry is laid where one may be.
-/
import Derived.Test.YtkdmnhmlkcejfaaRgC
namespace Go.Proofs.Ytkdmnhmlkcejfaa
open Go.RowKit
set_option linter.unusedVariables false
set_option linter.unusedSimpArgs false

variable {B T : Int}
theorem enCells_take (ts : List EN) (k : Nat) (j : Nat) (u : Value) (h : (enCells (ts.take k))[j]? = some u) : (enCells ts)[j]? = some u := by
  have e : enCells ts = enCells (ts.take k) ++ enCells (ts.drop k) := by rw [enCells_append, List.take_append_drop]
  rw [e, List.getElem?_append_left (List.getElem?_eq_some_iff.1 h).1]
  exact h
theorem logH_of {w : World} {N g n c : Nat} {ao : Option Addr} {ts : List EN} (h : LogG B T w N g (.slice ao n c) ts) (hn : ts.length = n) (k : Nat) (hk : k ≤ n) : LogH B T (w.setCell ⟨g, 2, none⟩ (.slice ao k k)) N g ao k (ts.take k) := by
  have hset : ∀ k', k' ≠ g → (w.setCell ⟨g, 2, none⟩ (.slice ao k k)).heap[k']? = w.heap[k']? := fun k' hk => heap_setCell_other _ _ _ _ hk
  have hro := row_otherE h.row h.obj (by decide)
  refine ⟨h.low, (heap_setCell_same _ _ _ _ _ _ h.obj).trans rfl, ?_, ?_, fun e he => EN.own.move (h.lists e (List.mem_of_mem_take he)) fun b c hb => hset b ?_, h.bd⟩
  · rintro rfl
    rcases h.row.2 with ⟨e, h0⟩ | ⟨g', cap, cur, e, _⟩
    · omega
    · cases e
  · obtain ⟨a, cap, e, h1, h2, h3, h4⟩ := SR.owns h.row
    injection e with e1 e2 e3
    subst e1 e3
    rcases h4 with h4 | ⟨b, off, rfl, hb, hc⟩
    · rcases h.row.2 with ⟨e, h0⟩ | ⟨g', cap, cur, e, hb, hg, -⟩
      · injection e with e1; exact .inl e1
      · injection e with e1
        subst e1
        refine .inr ⟨g', 0, rfl, by simpa [World.setCell] using lt_heap hg, fun j u hj => ?_⟩
        have := (List.getElem?_eq_some_iff.1 (enCells_take ts k j u hj)).1
        rw [enCells_len] at this
        omega
    · refine .inr ⟨b, off, rfl, by simpa [World.setCell] using hb, fun j u hj => ?_⟩
      have hbg : b ≠ g := fun e => hro (by rw [e]; rfl)
      exact (World.cell?_of_block (a := ⟨b, off + j, none⟩) (hset b hbg)).trans (hc j u (enCells_take ts k j u hj))
  · rintro rfl
    rw [h.obj] at hb
    injection hb with hb
    injection hb with _ h2
    exact absurd h2 (by decide)
theorem quiet_m {P : Program} {f : FuncId} {args : Array Value} {w : World} {a n : Nat} {v : Value} (h : Calls P f args (w.drewN (a + n)) fun e w' => e = .returned v ∧ ∃ q, w' = (w.drewN (a + n)).drewN q) :
    Calls P f args (w.drewN (a + n)) fun e w'' => e = .returned v ∧ ∃ m, w'' = w.drewN (a + m) := h.mono fun _ _ ⟨he, q, hm⟩ => ⟨he, n + q, by rw [hm, drewN_moreR, Nat.add_assoc]⟩
/-- what becomes of the entries' keys -/
def layK (l : List (Int × Int × CF)) (k : Nat) (e : Int × Int × CF) : List (Int × Int × CF) := if k < l.length ∧ (l.map Prod.fst).getD k 0 = e.1 then l else l.take k ++ [e]
set_option maxHeartbeats 6400000 in
set_option maxRecDepth 100000 in
theorem rlayG (e : EN) (w : World) (ha : e.at_ w) (hs : short e.c) (hm : mayE e.t e.x e.c = true) (N g : Nat) (hf : e.far g) (v : Value) (ts : List EN) (h : LogG B T w N g v ts) (hl : ts.length < 300) (k : Nat) (hk : k ≤ ts.length) :
    Calls Try.prog 29 #[.pointer (some ⟨g, 0, none⟩), .int .i64 (B + k + 1), .agg #[.int .i64 e.t, .int .i64 e.x, .int .i64 e.c.e, .int .i64 e.c.b, .int .i64 e.c.k, .slice e.a1 e.c.M.length e.q1, .slice e.a2 e.c.C.length e.q2]] w fun ev w' => ev = .returned (.bool true) ∧ ∃ v' fs, LogG B T w' N g v' fs ∧ fs.map EN.k = layK (ts.map EN.k) k e.k ∧ Only g w w' ∧ (v'.ownBlock = v.ownBlock ∨ ∀ k, v'.ownBlock = some k → w.heap.size ≤ k) := by
  obtain ⟨n, hn⟩ : ∃ n, ts.length = n := ⟨_, rfl⟩
  obtain ⟨hb1, hb2⟩ := h.bd
  have hcase : v = .slice none 0 0 ∧ n = 0 ∨ ∃ b c, v = .slice (some ⟨b, 0, none⟩) n c ∧ n ≤ c ∧ c ≤ maxLen := by
    rcases h.row.2 with ⟨e, h0⟩ | ⟨b, c, cur, e, _, _, h1, h2, _⟩
    · exact .inl ⟨e, by omega⟩
    · exact .inr ⟨b, c, by rw [e, hn], by omega, h2⟩
  have hx := heap_alloc_self w (.cells #[.int .i64 e.t, .int .i64 e.x, .int .i64 e.c.e, .int .i64 e.c.b, .int .i64 e.c.k, .slice e.a1 e.c.M.length e.q1, .slice e.a2 e.c.C.length e.q2] 46)
  have hb : Below w.heap.size w (w.alloc (.cells #[.int .i64 e.t, .int .i64 e.x, .int .i64 e.c.e, .int .i64 e.c.b, .int .i64 e.c.k, .slice e.a1 e.c.M.length e.q1, .slice e.a2 e.c.C.length e.q2] 46)) := (Below.refl _ _).alloc (Nat.le_refl _) _
  have h1 := h.below hb
  have ha1 := EN.at_.below ha hb
  have hgs := lt_heap h.obj
  have hng : w.heap.size ≠ g := by omega
  have HN := Lib.hid hn
  rw [hn] at hl hk
  have hkeys : (ts.map EN.k).length = n := by rw [List.length_map, hn]
  obtain ⟨eq, heq⟩ : ∃ eq, (decide (k < n) && ((ts.map EN.t).getD k 0 == e.t)) = eq := ⟨_, rfl⟩
  have hlk : layK (ts.map EN.k) k e.k = if eq = true then ts.map EN.k else (ts.take k ++ [e]).map EN.k := by
    have hmt : (ts.map EN.k).map Prod.fst = ts.map EN.t := by rw [List.map_map]; rfl
    unfold layK
    rw [hkeys, hmt, ← heq]
    by_cases hc : k < n ∧ (ts.map EN.t).getD k 0 = e.k.1
    · rw [if_pos hc, if_pos (by simp only [Bool.and_eq_true, decide_eq_true_eq, beq_iff_eq]; exact hc)]
    · rw [if_neg hc, if_neg (by simp only [Bool.and_eq_true, decide_eq_true_eq, beq_iff_eq]; exact hc)]
      simp [List.map_take]
  have HLK := Lib.hid hlk
  obtain ⟨P, hP⟩ : ∃ P : Int, P = B + k + 1 := ⟨_, rfl⟩
  obtain ⟨Q, hQ⟩ : ∃ P : Int, P = B + n := ⟨_, rfl⟩
  rw [← hP]
  have HF0 := Lib.hid hf
  have HPQ := Lib.hid (And.intro hP hQ)
  have HEQ := Lib.hid heq
  have HK := Lib.hid hk
  clear hlk heq hkeys h ha hf
  go_enter Try.func29, Try.ntmps29
  go_upto_region 1 with fail
  generalize w.alloc (.cells #[.int .i64 e.t, .int .i64 e.x, .int .i64 e.c.e, .int .i64 e.c.b, .int .i64 e.c.k, .slice e.a1 e.c.M.length e.q1, .slice e.a2 e.c.C.length e.q2] 46) = w1 at *
  have HX := Lib.hid (And.intro hx (And.intro hb (And.intro h1 ha1)))
  have HC := Lib.hid hcase
  clear hcase hb ha1
  go_cut [21] (fun s wx => s = .bool eq ∧ Below w1.heap.size w1 wx)
  case first =>
    by_cases hlt : k < n
    · have hat : P ≤ Q := by omega
      have hatd : decide (P ≤ Q) = true := by simpa using hat
      have hed : ((ts.map EN.t).getD k 0 == e.t) = eq := by have := HEQ.out; rw [show decide (k < n) = true by simpa using hlt, Bool.true_and] at this; exact this
      have hD := h1.below (below_drew' (Below.refl w1.heap.size w1))
      have cl := rlenG w1.drew N g v ts hD (by have := HN.out; omega)
      have ct := fun q => rtermG P (w1.drewN q) N g v ts (h1.drewN q) (by have := HN.out; omega) (by omega) (by omega)
      rw [show termG B T ts P = (ts.map EN.t).getD k 0 by unfold termG; rw [if_neg (by omega), if_pos (by omega), show (P - B - 1).toNat = k by omega]] at ct
      rw [HN.out, ← hQ] at cl
      generalize (ts.map EN.t).getD k 0 = S at *
      have d0 := cell_atD hx 0 (v := .int .i64 e.t) rfl
      clear hP hQ hx h1 hD hlt hk
      cases eq
      · have hne : ¬ S = e.t := by simpa using hed
        refine wp_region_held_drew (S := fun w' => w'.cell? ⟨w.heap.size, 0, none⟩ = some (.int .i64 e.t)) (by kernel_rfl) d0 (fun hHeld => ?_)
        refine wpAnyH_take (i := 0) (oi := { dst := some 10, op := Go.Op.move (Go.Operand.tmp 1), type := 3, pos := "rlog.go:110", after := #[], guard := none }) (v := ?va0) rfl (by kernel_rfl) (by kernel_rfl) (by kernel_rfl) (fun _ _ _ h => h) (Or.inl ⟨by rfl, ?ya0⟩) (by assumption) ?ra0
        case ya0 => (intro w hSw; (try dsimp only at hSw); go_simp; try with_reducible rfl)
        try simp only [Act.put, List.setIfInBounds_toArray, List.set_cons_zero, List.set_cons_succ]
        refine wpAnyH_take (i := 1) (oi := { dst := some 11, op := Go.Op.move (Go.Operand.tmp 0), type := 23, pos := "rlog.go:110", after := #[], guard := none }) (v := ?va1) rfl (by kernel_rfl) (by kernel_rfl) (by kernel_rfl) (fun _ _ _ h => h) (Or.inl ⟨by rfl, ?ya1⟩) (by assumption) ?ra1
        case ya1 => (intro w hSw; (try dsimp only at hSw); go_simp; try with_reducible rfl)
        try simp only [Act.put, List.setIfInBounds_toArray, List.set_cons_zero, List.set_cons_succ]
        refine wpAnyH_ready (rs := [2]) (by kernel_rfl) (by simp) ?_
        refine AllReadyH.cons (o := { dst := some 12, op := Go.Op.call { callee := Go.Callee.value (Go.Operand.func 18), args := #[Go.Operand.tmp 11], argTypes := #[23] }, type := 3, pos := "rlog.go:110", after := #[{ on := 1, ground := Go.Ground.data }], guard := none }) rfl (fun K hK => ?_) AllReadyH.nil
        go_simp
        go_at_call 18
        refine Calls.mono cl ?_
        rintro ev w2 ⟨rfl, q, rfl⟩
        try simp only []
        refine hK.out _ _ d0 (fun hHeld2 => ?_)
        clear hK K hHeld
        have hHeld := hHeld2
        clear hHeld2
        try simp only [Act.put, List.setIfInBounds_toArray, List.set_cons_zero, List.set_cons_succ]
        refine wpAnyH_take (i := 3) (oi := { dst := some 13, op := Go.Op.binOp Go.BinOp.leq 3 (Go.Operand.tmp 10) (Go.Operand.tmp 12) 3, type := 4, pos := "rlog.go:110", after := #[{ on := 0, ground := Go.Ground.data }, { on := 2, ground := Go.Ground.data }], guard := none }) (v := ?va3) rfl (by kernel_rfl) (by kernel_rfl) (by kernel_rfl) (fun _ _ _ h => h) (Or.inl ⟨by rfl, ?ya3⟩) (by assumption) ?ra3
        case ya3 => (intro w hSw; (try dsimp only at hSw); go_simp; try with_reducible rfl)
        try simp only [Act.put, List.setIfInBounds_toArray, List.set_cons_zero, List.set_cons_succ]
        refine wpAnyH_take (i := 4) (oi := { dst := some 14, op := Go.Op.move (Go.Operand.tmp 13), type := 4, pos := "rlog.go:110", after := #[{ on := 3, ground := Go.Ground.data }, { on := 2, ground := Go.Ground.chain }], guard := none }) (v := ?va4) rfl (by kernel_rfl) (by kernel_rfl) (by kernel_rfl) (fun _ _ _ h => h) (Or.inl ⟨by rfl, ?ya4⟩) (by assumption) ?ra4
        case ya4 => (intro w hSw; (try dsimp only at hSw); go_simp; try with_reducible rfl)
        try simp only [Act.put, List.setIfInBounds_toArray, List.set_cons_zero, List.set_cons_succ]
        refine wpAnyH_take (i := 5) (oi := { dst := some 15, op := Go.Op.move (Go.Operand.tmp 0), type := 23, pos := "rlog.go:110", after := #[{ on := 4, ground := Go.Ground.guard }], guard := some (4, true) }) (v := ?va5) rfl (by kernel_rfl) (by kernel_rfl) (by kernel_rfl) (fun _ _ _ h => h) (Or.inl ⟨by rfl, ?ya5⟩) (by assumption) ?ra5
        case ya5 => (intro w hSw; (try dsimp only at hSw); go_simp; try with_reducible rfl)
        try simp only [Act.put, List.setIfInBounds_toArray, List.set_cons_zero, List.set_cons_succ]
        refine wpAnyH_take (i := 6) (oi := { dst := some 16, op := Go.Op.move (Go.Operand.tmp 1), type := 3, pos := "rlog.go:110", after := #[{ on := 4, ground := Go.Ground.guard }], guard := some (4, true) }) (v := ?va6) rfl (by kernel_rfl) (by kernel_rfl) (by kernel_rfl) (fun _ _ _ h => h) (Or.inl ⟨by rfl, ?ya6⟩) (by assumption) ?ra6
        case ya6 => (intro w hSw; (try dsimp only at hSw); go_simp; try with_reducible rfl)
        try simp only [Act.put, List.setIfInBounds_toArray, List.set_cons_zero, List.set_cons_succ]
        refine wpAnyH_take (i := 8) (oi := { dst := some 18, op := Go.Op.fieldAddr 46 (Go.Operand.tmp 5) 0, type := 0, pos := "rlog.go:110", after := #[{ on := 4, ground := Go.Ground.guard }], guard := some (4, true) }) (v := ?va8) rfl (by kernel_rfl) (by kernel_rfl) (by kernel_rfl) (fun _ _ _ h => h) (Or.inl ⟨by rfl, ?ya8⟩) (by assumption) ?ra8
        case ya8 => (intro w hSw; (try dsimp only at hSw); go_simp; try with_reducible rfl)
        try simp only [Act.put, List.setIfInBounds_toArray, List.set_cons_zero, List.set_cons_succ]
        refine wpAnyH_take (i := 9) (oi := { dst := some 19, op := Go.Op.load 3 (Go.Operand.tmp 18), type := 3, pos := "rlog.go:110", after := #[{ on := 8, ground := Go.Ground.data }, { on := 4, ground := Go.Ground.guard }], guard := some (4, true) }) (v := ?va9) rfl (by kernel_rfl) (by kernel_rfl) (by kernel_rfl) (fun _ _ _ h => h) (Or.inl ⟨by rfl, ?ya9⟩) (by assumption) ?ra9
        case ya9 => (intro w hSw; (try dsimp only at hSw); go_simp; try with_reducible rfl)
        try simp only [Act.put, List.setIfInBounds_toArray, List.set_cons_zero, List.set_cons_succ]
        refine wpAnyH_ready (rs := [7]) (by kernel_rfl) (by simp) ?_
        refine AllReadyH.cons (o := { dst := some 17, op := Go.Op.call { callee := Go.Callee.value (Go.Operand.func 19), args := #[Go.Operand.tmp 15, Go.Operand.tmp 16], argTypes := #[23, 3] }, type := 3, pos := "rlog.go:110", after := #[{ on := 5, ground := Go.Ground.data }, { on := 6, ground := Go.Ground.data }, { on := 4, ground := Go.Ground.chain }, { on := 4, ground := Go.Ground.guard }], guard := some (4, true) }) rfl (fun K hK => ?_) AllReadyH.nil
        go_simp
        go_at_call 19
        refine Calls.mono (ct _) ?_
        rintro ev w2 ⟨rfl, q2, rfl⟩
        try simp only []
        refine hK.out _ _ d0 (fun hHeld2 => ?_)
        clear hK K hHeld
        have hHeld := hHeld2
        clear hHeld2
        try simp only [Act.put, List.setIfInBounds_toArray, List.set_cons_zero, List.set_cons_succ]
        refine wpAnyH_take (i := 10) (oi := { dst := some 20, op := Go.Op.binOp Go.BinOp.eql 3 (Go.Operand.tmp 17) (Go.Operand.tmp 19) 3, type := 4, pos := "rlog.go:110", after := #[{ on := 7, ground := Go.Ground.data }, { on := 9, ground := Go.Ground.data }, { on := 4, ground := Go.Ground.guard }], guard := some (4, true) }) (v := ?va10) rfl (by kernel_rfl) (by kernel_rfl) (by kernel_rfl) (fun _ _ _ h => h) (Or.inl ⟨by rfl, ?ya10⟩) (by assumption) ?ra10
        case ya10 => (intro w hSw; (try dsimp only at hSw); go_simp; try with_reducible rfl)
        try simp only [Act.put, List.setIfInBounds_toArray, List.set_cons_zero, List.set_cons_succ]
        refine wpAnyH_take (i := 11) (oi := { dst := some 21, op := Go.Op.pick (Go.Operand.tmp 14) (Go.Operand.tmp 20) (Go.Operand.const (Go.Value.bool false)), type := 4, pos := "rlog.go:110", after := #[{ on := 4, ground := Go.Ground.data }, { on := 10, ground := Go.Ground.data }], guard := none }) (v := ?va11) rfl (by kernel_rfl) (by kernel_rfl) (by kernel_rfl) (fun _ _ _ h => h) (Or.inl ⟨by rfl, ?ya11⟩) (by assumption) ?ra11
        case ya11 => (intro w hSw; (try dsimp only at hSw); go_simp; try with_reducible rfl)
        try simp only [Act.put, List.setIfInBounds_toArray, List.set_cons_zero, List.set_cons_succ]
        refine wpAnyH_done (by kernel_rfl) ?_ _
        go_wp2_with fail
        go_meet
        exact ⟨by simp [hed, hne], by first | exact below_drewN' (Below.refl _ _) _ | exact below_drewN' (below_drewN' (Below.refl _ _) _) _⟩
      · have hne : S = e.t := by simpa using hed
        refine wp_region_held_drew (S := fun w' => w'.cell? ⟨w.heap.size, 0, none⟩ = some (.int .i64 e.t)) (by kernel_rfl) d0 (fun hHeld => ?_)
        refine wpAnyH_take (i := 0) (oi := { dst := some 10, op := Go.Op.move (Go.Operand.tmp 1), type := 3, pos := "rlog.go:110", after := #[], guard := none }) (v := ?vb0) rfl (by kernel_rfl) (by kernel_rfl) (by kernel_rfl) (fun _ _ _ h => h) (Or.inl ⟨by rfl, ?yb0⟩) (by assumption) ?rb0
        case yb0 => (intro w hSw; (try dsimp only at hSw); go_simp; try with_reducible rfl)
        try simp only [Act.put, List.setIfInBounds_toArray, List.set_cons_zero, List.set_cons_succ]
        refine wpAnyH_take (i := 1) (oi := { dst := some 11, op := Go.Op.move (Go.Operand.tmp 0), type := 23, pos := "rlog.go:110", after := #[], guard := none }) (v := ?vb1) rfl (by kernel_rfl) (by kernel_rfl) (by kernel_rfl) (fun _ _ _ h => h) (Or.inl ⟨by rfl, ?yb1⟩) (by assumption) ?rb1
        case yb1 => (intro w hSw; (try dsimp only at hSw); go_simp; try with_reducible rfl)
        try simp only [Act.put, List.setIfInBounds_toArray, List.set_cons_zero, List.set_cons_succ]
        refine wpAnyH_ready (rs := [2]) (by kernel_rfl) (by simp) ?_
        refine AllReadyH.cons (o := { dst := some 12, op := Go.Op.call { callee := Go.Callee.value (Go.Operand.func 18), args := #[Go.Operand.tmp 11], argTypes := #[23] }, type := 3, pos := "rlog.go:110", after := #[{ on := 1, ground := Go.Ground.data }], guard := none }) rfl (fun K hK => ?_) AllReadyH.nil
        go_simp
        go_at_call 18
        refine Calls.mono cl ?_
        rintro ev w2 ⟨rfl, q, rfl⟩
        try simp only []
        refine hK.out _ _ d0 (fun hHeld2 => ?_)
        clear hK K hHeld
        have hHeld := hHeld2
        clear hHeld2
        try simp only [Act.put, List.setIfInBounds_toArray, List.set_cons_zero, List.set_cons_succ]
        refine wpAnyH_take (i := 3) (oi := { dst := some 13, op := Go.Op.binOp Go.BinOp.leq 3 (Go.Operand.tmp 10) (Go.Operand.tmp 12) 3, type := 4, pos := "rlog.go:110", after := #[{ on := 0, ground := Go.Ground.data }, { on := 2, ground := Go.Ground.data }], guard := none }) (v := ?vb3) rfl (by kernel_rfl) (by kernel_rfl) (by kernel_rfl) (fun _ _ _ h => h) (Or.inl ⟨by rfl, ?yb3⟩) (by assumption) ?rb3
        case yb3 => (intro w hSw; (try dsimp only at hSw); go_simp; try with_reducible rfl)
        try simp only [Act.put, List.setIfInBounds_toArray, List.set_cons_zero, List.set_cons_succ]
        refine wpAnyH_take (i := 4) (oi := { dst := some 14, op := Go.Op.move (Go.Operand.tmp 13), type := 4, pos := "rlog.go:110", after := #[{ on := 3, ground := Go.Ground.data }, { on := 2, ground := Go.Ground.chain }], guard := none }) (v := ?vb4) rfl (by kernel_rfl) (by kernel_rfl) (by kernel_rfl) (fun _ _ _ h => h) (Or.inl ⟨by rfl, ?yb4⟩) (by assumption) ?rb4
        case yb4 => (intro w hSw; (try dsimp only at hSw); go_simp; try with_reducible rfl)
        try simp only [Act.put, List.setIfInBounds_toArray, List.set_cons_zero, List.set_cons_succ]
        refine wpAnyH_take (i := 5) (oi := { dst := some 15, op := Go.Op.move (Go.Operand.tmp 0), type := 23, pos := "rlog.go:110", after := #[{ on := 4, ground := Go.Ground.guard }], guard := some (4, true) }) (v := ?vb5) rfl (by kernel_rfl) (by kernel_rfl) (by kernel_rfl) (fun _ _ _ h => h) (Or.inl ⟨by rfl, ?yb5⟩) (by assumption) ?rb5
        case yb5 => (intro w hSw; (try dsimp only at hSw); go_simp; try with_reducible rfl)
        try simp only [Act.put, List.setIfInBounds_toArray, List.set_cons_zero, List.set_cons_succ]
        refine wpAnyH_take (i := 6) (oi := { dst := some 16, op := Go.Op.move (Go.Operand.tmp 1), type := 3, pos := "rlog.go:110", after := #[{ on := 4, ground := Go.Ground.guard }], guard := some (4, true) }) (v := ?vb6) rfl (by kernel_rfl) (by kernel_rfl) (by kernel_rfl) (fun _ _ _ h => h) (Or.inl ⟨by rfl, ?yb6⟩) (by assumption) ?rb6
        case yb6 => (intro w hSw; (try dsimp only at hSw); go_simp; try with_reducible rfl)
        try simp only [Act.put, List.setIfInBounds_toArray, List.set_cons_zero, List.set_cons_succ]
        refine wpAnyH_take (i := 8) (oi := { dst := some 18, op := Go.Op.fieldAddr 46 (Go.Operand.tmp 5) 0, type := 0, pos := "rlog.go:110", after := #[{ on := 4, ground := Go.Ground.guard }], guard := some (4, true) }) (v := ?vb8) rfl (by kernel_rfl) (by kernel_rfl) (by kernel_rfl) (fun _ _ _ h => h) (Or.inl ⟨by rfl, ?yb8⟩) (by assumption) ?rb8
        case yb8 => (intro w hSw; (try dsimp only at hSw); go_simp; try with_reducible rfl)
        try simp only [Act.put, List.setIfInBounds_toArray, List.set_cons_zero, List.set_cons_succ]
        refine wpAnyH_take (i := 9) (oi := { dst := some 19, op := Go.Op.load 3 (Go.Operand.tmp 18), type := 3, pos := "rlog.go:110", after := #[{ on := 8, ground := Go.Ground.data }, { on := 4, ground := Go.Ground.guard }], guard := some (4, true) }) (v := ?vb9) rfl (by kernel_rfl) (by kernel_rfl) (by kernel_rfl) (fun _ _ _ h => h) (Or.inl ⟨by rfl, ?yb9⟩) (by assumption) ?rb9
        case yb9 => (intro w hSw; (try dsimp only at hSw); go_simp; try with_reducible rfl)
        try simp only [Act.put, List.setIfInBounds_toArray, List.set_cons_zero, List.set_cons_succ]
        refine wpAnyH_ready (rs := [7]) (by kernel_rfl) (by simp) ?_
        refine AllReadyH.cons (o := { dst := some 17, op := Go.Op.call { callee := Go.Callee.value (Go.Operand.func 19), args := #[Go.Operand.tmp 15, Go.Operand.tmp 16], argTypes := #[23, 3] }, type := 3, pos := "rlog.go:110", after := #[{ on := 5, ground := Go.Ground.data }, { on := 6, ground := Go.Ground.data }, { on := 4, ground := Go.Ground.chain }, { on := 4, ground := Go.Ground.guard }], guard := some (4, true) }) rfl (fun K hK => ?_) AllReadyH.nil
        go_simp
        go_at_call 19
        refine Calls.mono (ct _) ?_
        rintro ev w2 ⟨rfl, q2, rfl⟩
        try simp only []
        refine hK.out _ _ d0 (fun hHeld2 => ?_)
        clear hK K hHeld
        have hHeld := hHeld2
        clear hHeld2
        try simp only [Act.put, List.setIfInBounds_toArray, List.set_cons_zero, List.set_cons_succ]
        refine wpAnyH_take (i := 10) (oi := { dst := some 20, op := Go.Op.binOp Go.BinOp.eql 3 (Go.Operand.tmp 17) (Go.Operand.tmp 19) 3, type := 4, pos := "rlog.go:110", after := #[{ on := 7, ground := Go.Ground.data }, { on := 9, ground := Go.Ground.data }, { on := 4, ground := Go.Ground.guard }], guard := some (4, true) }) (v := ?vb10) rfl (by kernel_rfl) (by kernel_rfl) (by kernel_rfl) (fun _ _ _ h => h) (Or.inl ⟨by rfl, ?yb10⟩) (by assumption) ?rb10
        case yb10 => (intro w hSw; (try dsimp only at hSw); go_simp; try with_reducible rfl)
        try simp only [Act.put, List.setIfInBounds_toArray, List.set_cons_zero, List.set_cons_succ]
        refine wpAnyH_take (i := 11) (oi := { dst := some 21, op := Go.Op.pick (Go.Operand.tmp 14) (Go.Operand.tmp 20) (Go.Operand.const (Go.Value.bool false)), type := 4, pos := "rlog.go:110", after := #[{ on := 4, ground := Go.Ground.data }, { on := 10, ground := Go.Ground.data }], guard := none }) (v := ?vb11) rfl (by kernel_rfl) (by kernel_rfl) (by kernel_rfl) (fun _ _ _ h => h) (Or.inl ⟨by rfl, ?yb11⟩) (by assumption) ?rb11
        case yb11 => (intro w hSw; (try dsimp only at hSw); go_simp; try with_reducible rfl)
        try simp only [Act.put, List.setIfInBounds_toArray, List.set_cons_zero, List.set_cons_succ]
        refine wpAnyH_done (by kernel_rfl) ?_ _
        go_wp2_with fail
        go_meet
        exact ⟨by simp [hne], by first | exact below_drewN' (Below.refl _ _) _ | exact below_drewN' (below_drewN' (Below.refl _ _) _) _⟩
    · have hat : ¬ (P ≤ Q) := by omega
      have hatd : decide (P ≤ Q) = false := by simpa using hat
      have hed : eq = false := by have := HEQ.out; rw [show decide (k < n) = false by simpa using hlt, Bool.false_and] at this; exact this.symm
      subst hed
      have cl := rlenG w1.drew N g v ts (h1.below (below_drew' (Below.refl _ _))) (by have := HN.out; omega)
      rw [HN.out, ← hQ] at cl
      clear hP hQ hx h1 hlt hk
      refine wp_region_held_drew (S := fun _ => True) (by kernel_rfl) trivial (fun hHeld => ?_)
      refine wpAnyH_take (i := 0) (oi := { dst := some 10, op := Go.Op.move (Go.Operand.tmp 1), type := 3, pos := "rlog.go:110", after := #[], guard := none }) (v := ?v0) rfl (by kernel_rfl) (by kernel_rfl) (by kernel_rfl) (fun _ _ _ h => h) (Or.inl ⟨by rfl, ?y0⟩) (by assumption) ?r0
      case y0 => (intro w hSw; (try dsimp only at hSw); go_simp; try with_reducible rfl)
      try simp only [Act.put, List.setIfInBounds_toArray, List.set_cons_zero, List.set_cons_succ]
      refine wpAnyH_take (i := 1) (oi := { dst := some 11, op := Go.Op.move (Go.Operand.tmp 0), type := 23, pos := "rlog.go:110", after := #[], guard := none }) (v := ?v1) rfl (by kernel_rfl) (by kernel_rfl) (by kernel_rfl) (fun _ _ _ h => h) (Or.inl ⟨by rfl, ?y1⟩) (by assumption) ?r1
      case y1 => (intro w hSw; (try dsimp only at hSw); go_simp; try with_reducible rfl)
      try simp only [Act.put, List.setIfInBounds_toArray, List.set_cons_zero, List.set_cons_succ]
      refine wpAnyH_ready (rs := [2]) (by kernel_rfl) (by simp) ?_
      refine AllReadyH.cons (o := { dst := some 12, op := Go.Op.call { callee := Go.Callee.value (Go.Operand.func 18), args := #[Go.Operand.tmp 11], argTypes := #[23] }, type := 3, pos := "rlog.go:110", after := #[{ on := 1, ground := Go.Ground.data }], guard := none }) rfl (fun K hK => ?_) AllReadyH.nil
      go_simp
      go_at_call 18
      refine Calls.mono cl ?_
      rintro ev w2 ⟨rfl, q, rfl⟩
      try simp only []
      refine hK.out _ _ trivial (fun hHeld2 => ?_)
      clear hK K
      try simp only [Act.put, List.setIfInBounds_toArray, List.set_cons_zero, List.set_cons_succ]
      refine wpAnyH_take (i := 3) (oi := { dst := some 13, op := Go.Op.binOp Go.BinOp.leq 3 (Go.Operand.tmp 10) (Go.Operand.tmp 12) 3, type := 4, pos := "rlog.go:110", after := #[{ on := 0, ground := Go.Ground.data }, { on := 2, ground := Go.Ground.data }], guard := none }) (v := ?v3) rfl (by kernel_rfl) (by kernel_rfl) (by kernel_rfl) (fun _ _ _ h => h) (Or.inl ⟨by rfl, ?y3⟩) (by assumption) ?r3
      case y3 => (intro w hSw; (try dsimp only at hSw); go_simp; try with_reducible rfl)
      try simp only [Act.put, List.setIfInBounds_toArray, List.set_cons_zero, List.set_cons_succ]
      refine wpAnyH_take (i := 4) (oi := { dst := some 14, op := Go.Op.move (Go.Operand.tmp 13), type := 4, pos := "rlog.go:110", after := #[{ on := 3, ground := Go.Ground.data }, { on := 2, ground := Go.Ground.chain }], guard := none }) (v := ?v4) rfl (by kernel_rfl) (by kernel_rfl) (by kernel_rfl) (fun _ _ _ h => h) (Or.inl ⟨by rfl, ?y4⟩) (by assumption) ?r4
      case y4 => (intro w hSw; (try dsimp only at hSw); go_simp; try with_reducible rfl)
      try simp only [Act.put, List.setIfInBounds_toArray, List.set_cons_zero, List.set_cons_succ]
      refine wpAnyH_take (i := 5) (oi := { dst := some 15, op := Go.Op.move (Go.Operand.tmp 0), type := 23, pos := "rlog.go:110", after := #[{ on := 4, ground := Go.Ground.guard }], guard := some (4, true) }) (v := undef) rfl (by kernel_rfl) (by kernel_rfl) (by kernel_rfl) (fun _ _ _ h => h) (Or.inr ⟨by rfl, rfl⟩) (by assumption) ?_
      try simp only [Act.put, List.setIfInBounds_toArray, List.set_cons_zero, List.set_cons_succ]
      refine wpAnyH_take (i := 6) (oi := { dst := some 16, op := Go.Op.move (Go.Operand.tmp 1), type := 3, pos := "rlog.go:110", after := #[{ on := 4, ground := Go.Ground.guard }], guard := some (4, true) }) (v := undef) rfl (by kernel_rfl) (by kernel_rfl) (by kernel_rfl) (fun _ _ _ h => h) (Or.inr ⟨by rfl, rfl⟩) (by assumption) ?_
      try simp only [Act.put, List.setIfInBounds_toArray, List.set_cons_zero, List.set_cons_succ]
      refine wpAnyH_take (i := 7) (oi := { dst := some 17, op := Go.Op.call { callee := Go.Callee.value (Go.Operand.func 19), args := #[Go.Operand.tmp 15, Go.Operand.tmp 16], argTypes := #[23, 3] }, type := 3, pos := "rlog.go:110", after := #[{ on := 5, ground := Go.Ground.data }, { on := 6, ground := Go.Ground.data }, { on := 4, ground := Go.Ground.chain }, { on := 4, ground := Go.Ground.guard }], guard := some (4, true) }) (v := undef) rfl (by kernel_rfl) (by kernel_rfl) (by kernel_rfl) (fun _ _ _ h => h) (Or.inr ⟨by rfl, rfl⟩) (by assumption) ?_
      try simp only [Act.put, List.setIfInBounds_toArray, List.set_cons_zero, List.set_cons_succ]
      refine wpAnyH_take (i := 8) (oi := { dst := some 18, op := Go.Op.fieldAddr 46 (Go.Operand.tmp 5) 0, type := 0, pos := "rlog.go:110", after := #[{ on := 4, ground := Go.Ground.guard }], guard := some (4, true) }) (v := undef) rfl (by kernel_rfl) (by kernel_rfl) (by kernel_rfl) (fun _ _ _ h => h) (Or.inr ⟨by rfl, rfl⟩) (by assumption) ?_
      try simp only [Act.put, List.setIfInBounds_toArray, List.set_cons_zero, List.set_cons_succ]
      refine wpAnyH_take (i := 9) (oi := { dst := some 19, op := Go.Op.load 3 (Go.Operand.tmp 18), type := 3, pos := "rlog.go:110", after := #[{ on := 8, ground := Go.Ground.data }, { on := 4, ground := Go.Ground.guard }], guard := some (4, true) }) (v := undef) rfl (by kernel_rfl) (by kernel_rfl) (by kernel_rfl) (fun _ _ _ h => h) (Or.inr ⟨by rfl, rfl⟩) (by assumption) ?_
      try simp only [Act.put, List.setIfInBounds_toArray, List.set_cons_zero, List.set_cons_succ]
      refine wpAnyH_take (i := 10) (oi := { dst := some 20, op := Go.Op.binOp Go.BinOp.eql 3 (Go.Operand.tmp 17) (Go.Operand.tmp 19) 3, type := 4, pos := "rlog.go:110", after := #[{ on := 7, ground := Go.Ground.data }, { on := 9, ground := Go.Ground.data }, { on := 4, ground := Go.Ground.guard }], guard := some (4, true) }) (v := undef) rfl (by kernel_rfl) (by kernel_rfl) (by kernel_rfl) (fun _ _ _ h => h) (Or.inr ⟨by rfl, rfl⟩) (by assumption) ?_
      try simp only [Act.put, List.setIfInBounds_toArray, List.set_cons_zero, List.set_cons_succ]
      refine wpAnyH_take (i := 11) (oi := { dst := some 21, op := Go.Op.pick (Go.Operand.tmp 14) (Go.Operand.tmp 20) (Go.Operand.const (Go.Value.bool false)), type := 4, pos := "rlog.go:110", after := #[{ on := 4, ground := Go.Ground.data }, { on := 10, ground := Go.Ground.data }], guard := none }) (v := ?v11) rfl (by kernel_rfl) (by kernel_rfl) (by kernel_rfl) (fun _ _ _ h => h) (Or.inl ⟨by rfl, ?y11⟩) (by assumption) ?r11
      case y11 => (intro w hSw; (try dsimp only at hSw); go_simp; try with_reducible rfl)
      try simp only [Act.put, List.setIfInBounds_toArray, List.set_cons_zero, List.set_cons_succ]
      refine wpAnyH_done (by kernel_rfl) ?_ _
      go_wp2_with fail
      go_meet
      exact ⟨rfl, below_drewN' (Below.refl _ _) _⟩
  case rest =>
    obtain ⟨rfl, hbw⟩ := hcut
    obtain ⟨w2, hw2⟩ : ∃ w2, w2 = wc := ⟨_, rfl⟩
    subst hw2
    have hx := below_at hbw (lt_heap HX.out.1) HX.out.1
    have hb := HX.out.2.1.trans (hbw.mono HX.out.2.1.size)
    have h1 := HX.out.2.2.1.below hbw
    have ha1 := EN.at_.below HX.out.2.2.2 hbw
    clear hbw HX
    cases eq
    case true =>
      have HF := Lib.hid (And.intro h1 (onlyB hb (y := g)))
      clear hx hb h1 ha1
      go_wp2_with fail
      go_ret
      exact ⟨ret_bool rfl, v, ts, HF.out.1, by rw [HLK.out]; simp, HF.out.2, .inl rfl⟩
    case false =>
      have d0 := cell_atD hx 0 (v := .int .i64 e.t) rfl
      have d1 := cell_atD hx 1 (v := .int .i64 e.x) rfl
      have d2 := cell_atD hx 2 (v := .int .i64 e.c.e) rfl
      have d3 := cell_atD hx 3 (v := .int .i64 e.c.b) rfl
      have d4 := cell_atD hx 4 (v := .int .i64 e.c.k) rfl
      have d5 := cell_atD hx 5 (v := .slice e.a1 e.c.M.length e.q1) rfl
      have d6 := cell_atD hx 6 (v := .slice e.a2 e.c.C.length e.q2) rfl
      have ce := emayE e.t e.x e.c e.a1 e.a2 e.q1 e.q2 w2 ha1
      rw [hm] at ce
      have HM := Lib.hid hm
      clear hm
      have HX := Lib.hid (And.intro hx (And.intro hb (And.intro h1 ha1)))
      clear hx hb h1 ha1
      go_wp2_with fail
      refine Calls.mono ce ?_
      rintro ev w3 ⟨rfl, hs3⟩
      clear ce d0 d1 d2 d3 d4 d5 d6
      have hx := below_at hs3 (lt_heap HX.out.1) HX.out.1
      have hb := HX.out.2.1.trans (hs3.mono HX.out.2.1.size)
      have h1 := HX.out.2.2.1.below hs3
      have ha1 := EN.at_.below HX.out.2.2.2 hs3
      clear HX
      clear hs3
      obtain ⟨g0, g1, g2, gf⟩ := h1.cells
      have HX := Lib.hid (And.intro hx (And.intro hb (And.intro h1 ha1)))
      clear hx hb h1 ha1
      have hgi := hgs
      have q1 : wrap64 (P - B) = P - B := by unfold wrap64; omega
      have q2 : wrap64 (P - B - 1) = k := by unfold wrap64; omega
      have q3 : IntKind.i64.wrap (P - B) = P - B := by rw [IntKind.wrap_i64]; omega
      have q4 : IntKind.i64.wrap (P - B - 1) = k := by rw [IntKind.wrap_i64]; omega
      clear hP hQ
      rcases HC.out with ⟨rfl, rfl⟩ | ⟨b, c, rfl, hnc, hcm⟩
      · have hk0 : k = 0 := by omega
        subst hk0
        clear HC
        go_upto_region 7 with fail
        have hF := logH_of HX.out.2.2.1 HN.out 0 (Nat.le_refl _)
        have hO : Only g w (w3.setCell ⟨g, 2, none⟩ (.slice none 0 0)) := (onlyB HX.out.2.1).trans only_set
        have hat : EN.at_ e (w3.setCell ⟨g, 2, none⟩ (.slice none 0 0)) := atF HX.out.2.2.2 HF0.out
        have hxs : (w3.setCell ⟨g, 2, none⟩ (.slice none 0 0)).heap[w.heap.size]? = some _ := (heap_setCell_other _ _ _ _ hng).trans HX.out.1
        generalize w3.setCell ⟨g, 2, none⟩ (.slice none 0 0) = w4 at *
        have d0 := cell_atD hxs 0 (v := .int .i64 e.t) rfl
        have d1 := cell_atD hxs 1 (v := .int .i64 e.x) rfl
        have d2 := cell_atD hxs 2 (v := .int .i64 e.c.e) rfl
        have d3 := cell_atD hxs 3 (v := .int .i64 e.c.b) rfl
        have d4 := cell_atD hxs 4 (v := .int .i64 e.c.k) rfl
        have d5 := cell_atD hxs 5 (v := .slice e.a1 e.c.M.length e.q1) rfl
        have d6 := cell_atD hxs 6 (v := .slice e.a2 e.c.C.length e.q2) rfl
        have ca := raddH e w4 hat hs HM.out N g _ _ _ hF rfl (by omega)
        have HO := Lib.hid hO
        clear hO hF hat hxs g0 g1 g2 gf HX
        go_wp2_with fail
        refine Calls.mono ca ?_
        rintro ev w5 ⟨rfl, b1, p1, b2, p2, v', hL, hO5, hnw⟩
        have HL := Lib.hid (And.intro hL (And.intro (HO.out.trans hO5) (show ∀ k, v'.ownBlock = some k → w.heap.size ≤ k from fun k e => Nat.le_trans HO.out.size (hnw k e))))
        clear hL hO5 hnw ca d0 d1 d2 d3 d4 d5 d6
        go_wp2_with fail
        go_ret
        exact ⟨ret_bool rfl, v', _, HL.out.1, by rw [HLK.out, if_neg (by simp)]; simp [EN.k], HL.out.2.1, .inr HL.out.2.2⟩
      · have hkc : (k : Int) ≤ c := by omega
        have hkn : (k : Int) ≤ n := by omega
        clear HC
        unfold maxLen at hcm
        go_upto_region 7 with fail
        have hF := logH_of HX.out.2.2.1 HN.out k HK.out
        have hO : Only g w (w3.setCell ⟨g, 2, none⟩ (.slice (some ⟨b, 0, none⟩) k k)) := (onlyB HX.out.2.1).trans only_set
        have hat : EN.at_ e (w3.setCell ⟨g, 2, none⟩ (.slice (some ⟨b, 0, none⟩) k k)) := atF HX.out.2.2.2 HF0.out
        have hxs : (w3.setCell ⟨g, 2, none⟩ (.slice (some ⟨b, 0, none⟩) k k)).heap[w.heap.size]? = some _ := (heap_setCell_other _ _ _ _ hng).trans HX.out.1
        generalize w3.setCell ⟨g, 2, none⟩ (.slice (some ⟨b, 0, none⟩) k k) = w4 at *
        have d0 := cell_atD hxs 0 (v := .int .i64 e.t) rfl
        have d1 := cell_atD hxs 1 (v := .int .i64 e.x) rfl
        have d2 := cell_atD hxs 2 (v := .int .i64 e.c.e) rfl
        have d3 := cell_atD hxs 3 (v := .int .i64 e.c.b) rfl
        have d4 := cell_atD hxs 4 (v := .int .i64 e.c.k) rfl
        have d5 := cell_atD hxs 5 (v := .slice e.a1 e.c.M.length e.q1) rfl
        have d6 := cell_atD hxs 6 (v := .slice e.a2 e.c.C.length e.q2) rfl
        have ca := raddH e w4 hat hs HM.out N g _ _ _ hF (by rw [List.length_take, HN.out]; exact Nat.min_eq_left HK.out) (by omega)
        have HO := Lib.hid hO
        clear hO hF hat hxs g0 g1 g2 gf HX
        go_wp2_with fail
        refine Calls.mono ca ?_
        rintro ev w5 ⟨rfl, b1, p1, b2, p2, v', hL, hO5, hnw⟩
        have HL := Lib.hid (And.intro hL (And.intro (HO.out.trans hO5) (show ∀ k, v'.ownBlock = some k → w.heap.size ≤ k from fun k e => Nat.le_trans HO.out.size (hnw k e))))
        clear hL hO5 hnw ca d0 d1 d2 d3 d4 d5 d6
        go_wp2_with fail
        go_ret
        exact ⟨ret_bool rfl, v', _, HL.out.1, by rw [HLK.out, if_neg (by simp)]; simp [EN.k], HL.out.2.1, .inr HL.out.2.2⟩
end Go.Proofs.Ytkdmnhmlkcejfaa
