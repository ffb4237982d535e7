/-
  An entry laid just behind all; entries laid one behind the other: rlog.lay, Append.
-/
import Derived.Test.YtkdmnhmlkcejfaaRlf
namespace Go.Proofs.Ytkdmnhmlkcejfaa
open Go.RowKit
set_option linter.unusedVariables false
set_option linter.unusedSimpArgs false

theorem logF_of {w : World} {N g n c : Nat} {ao : Option Addr} {ts : List EN} (h : LogE w N g (.slice ao n c) ts) (hn : ts.length = n) : LogF (w.setCell ⟨g, 2, none⟩ (.slice ao n n)) N g ao n ts := by
  have hset : ∀ k, k ≠ g → (w.setCell ⟨g, 2, none⟩ (.slice ao n n)).heap[k]? = w.heap[k]? := fun k hk => heap_setCell_other _ _ _ _ hk
  have hro := row_otherE h.row h.obj (by decide)
  refine ⟨h.low, (heap_setCell_same _ _ _ _ _ _ h.obj).trans rfl, ?_, ?_, fun e he => EN.own.move (h.lists e he) fun b c hb => hset b ?_⟩
  · rintro rfl
    rcases h.row.2 with ⟨e, h0⟩ | ⟨g', cap, cur, e, _⟩
    · omega
    · cases e
  · obtain ⟨a, cap, e, h1, h2, h3, h4⟩ := SR.owns h.row
    injection e with e1 e2 e3
    subst e1 e3
    rcases h4 with h4 | ⟨b, off, rfl, hb, hc⟩
    · rcases h.row.2 with ⟨e, h0⟩ | ⟨g', cap, cur, e, hb, hg, -⟩
      · injection e with e1; exact .inl e1
      · injection e with e1
        subst e1
        refine .inr ⟨g', 0, rfl, by simpa [World.setCell] using lt_heap hg, fun j u hj => ?_⟩
        have := (List.getElem?_eq_some_iff.1 hj).1
        rw [enCells_len] at this
        omega
    · refine .inr ⟨b, off, rfl, by simpa [World.setCell] using hb, fun j u hj => ?_⟩
      have hbg : b ≠ g := fun e => hro (by rw [e]; rfl)
      exact (World.cell?_of_block (a := ⟨b, off + j, none⟩) (hset b hbg)).trans (hc j u hj)
  · rintro rfl
    rw [h.obj] at hb
    injection hb with hb
    injection hb with _ h2
    exact absurd h2 (by decide)
theorem only_set {w : World} {g : Nat} {v : Value} : Only g w (w.setCell ⟨g, 2, none⟩ v) := (Only.refl _ _).set 2 v
/-- an entry's lists do not lie in this block -/
def EN.far (e : EN) (g : Nat) : Prop := (e.c.M.length ≠ 0 → ∀ k, (Value.slice e.a1 e.c.M.length e.q1).ownBlock = some k → k ≠ g) ∧ (e.c.C.length ≠ 0 → ∀ k, (Value.slice e.a2 e.c.C.length e.q2).ownBlock = some k → k ≠ g)
theorem srFar {w w' : World} {b size n : Nat} {v : Value} {xs : List Value} (h : SR w v size n xs) (ho : Only b w w') (hne : n ≠ 0 → ∀ k, v.ownBlock = some k → k ≠ b) : SR w' v size n xs := by
  obtain ⟨a, cap, rfl, h1, h2, h3, h4⟩ := h
  refine ⟨a, cap, rfl, h1, h2, h3, ?_⟩
  rcases Nat.eq_zero_or_pos n with hz | hz
  · exact .inl hz
  · refine h4.imp id ?_
    rintro ⟨g, off, rfl, hb, hc⟩
    exact ⟨g, off, rfl, Nat.lt_of_lt_of_le hb ho.size, fun j u hj => (World.cell?_of_block (a := ⟨g, off + j, none⟩) (ho.block g hb (hne (Nat.ne_of_gt hz) g rfl))).trans (hc j u hj)⟩
theorem atF {e : EN} {w : World} {g : Nat} {v : Value} (h : e.at_ w) (hf : e.far g) : e.at_ (w.setCell ⟨g, 2, none⟩ v) := ⟨srFar h.1 only_set hf.1, srFar h.2 only_set hf.2⟩
set_option maxHeartbeats 3200000 in
set_option maxRecDepth 100000 in
theorem rlayE (e : EN) (w : World) (ha : e.at_ w) (hs : short e.c) (hm : mayE e.t e.x e.c = true) (N g : Nat) (hf : e.far g) (v : Value) (ts : List EN) (h : LogE w N g v ts) (hl : ts.length < 300) :
    Calls Try.prog 29 #[.pointer (some ⟨g, 0, none⟩), .int .i64 ((ts.length : Int) + 1), .agg #[.int .i64 e.t, .int .i64 e.x, .int .i64 e.c.e, .int .i64 e.c.b, .int .i64 e.c.k, .slice e.a1 e.c.M.length e.q1, .slice e.a2 e.c.C.length e.q2]] w fun ev w' => ev = .returned (.bool true) ∧ ∃ b1 p1 b2 p2 v', LogE w' N g v' (ts ++ [⟨e.t, e.x, e.c, b1, p1, b2, p2⟩]) ∧ Only g w w' := by
  obtain ⟨n, hn⟩ : ∃ n, ts.length = n := ⟨_, rfl⟩
  have hcase : v = .slice none 0 0 ∧ n = 0 ∨ ∃ b c, v = .slice (some ⟨b, 0, none⟩) n c ∧ n ≤ c ∧ c ≤ maxLen := by
    rcases h.row.2 with ⟨e, h0⟩ | ⟨b, c, cur, e, _, _, h1, h2, _⟩
    · exact .inl ⟨e, by omega⟩
    · exact .inr ⟨b, c, by rw [e, hn], by omega, h2⟩
  have hx := heap_alloc_self w (.cells #[.int .i64 e.t, .int .i64 e.x, .int .i64 e.c.e, .int .i64 e.c.b, .int .i64 e.c.k, .slice e.a1 e.c.M.length e.q1, .slice e.a2 e.c.C.length e.q2] 46)
  have hb : Below w.heap.size w (w.alloc (.cells #[.int .i64 e.t, .int .i64 e.x, .int .i64 e.c.e, .int .i64 e.c.b, .int .i64 e.c.k, .slice e.a1 e.c.M.length e.q1, .slice e.a2 e.c.C.length e.q2] 46)) := (Below.refl _ _).alloc (Nat.le_refl _) _
  have h1 := h.below hb
  have ha1 := EN.at_.below ha hb
  have hgs := lt_heap h.obj
  have hng : w.heap.size ≠ g := by omega
  have HN := Lib.hid hn
  rw [hn] at hl
  rw [hn]
  obtain ⟨P, hP⟩ : ∃ P : Int, P = (n : Int) + 1 := ⟨_, rfl⟩
  obtain ⟨Q, hQ⟩ : ∃ P : Int, P = (n : Int) := ⟨_, rfl⟩
  rw [← hP]
  have hat : ¬ (P ≤ Q) := by omega
  have hatd : decide (P ≤ Q) = false := by simpa using hat
  have HPQ := Lib.hid (And.intro hP hQ)
  clear hP
  have HF0 := Lib.hid hf
  clear hn h ha hf
  go_enter Try.func29, Try.ntmps29
  go_upto_region 1 with fail
  generalize w.alloc (.cells #[.int .i64 e.t, .int .i64 e.x, .int .i64 e.c.e, .int .i64 e.c.b, .int .i64 e.c.k, .slice e.a1 e.c.M.length e.q1, .slice e.a2 e.c.C.length e.q2] 46) = w1 at *
  have cl := rlenE w1.drew N g v ts (h1.below (below_drew' (Below.refl _ _))) (by have := HN.out; omega)
  rw [HN.out, ← hQ] at cl
  clear hQ
  have HX := Lib.hid (And.intro hx (And.intro hb (And.intro h1 ha1)))
  have HC := Lib.hid hcase
  clear hx hb h1 ha1 hcase
  refine wp_region_held_drew (S := fun _ => True) (by kernel_rfl) trivial (fun hHeld => ?_)
  refine wpAnyH_take (i := 0) (oi := { dst := some 10, op := Go.Op.move (Go.Operand.tmp 1), type := 3, pos := "rlog.go:110", after := #[], guard := none }) (v := ?v0) rfl (by kernel_rfl) (by kernel_rfl) (by kernel_rfl) (fun _ _ _ h => h) (Or.inl ⟨by rfl, ?y0⟩) (by assumption) ?r0
  case y0 => (intro w hSw; (try dsimp only at hSw); go_simp; try with_reducible rfl)
  try simp only [Act.put, List.setIfInBounds_toArray, List.set_cons_zero, List.set_cons_succ]
  refine wpAnyH_take (i := 1) (oi := { dst := some 11, op := Go.Op.move (Go.Operand.tmp 0), type := 23, pos := "rlog.go:110", after := #[], guard := none }) (v := ?v1) rfl (by kernel_rfl) (by kernel_rfl) (by kernel_rfl) (fun _ _ _ h => h) (Or.inl ⟨by rfl, ?y1⟩) (by assumption) ?r1
  case y1 => (intro w hSw; (try dsimp only at hSw); go_simp; try with_reducible rfl)
  try simp only [Act.put, List.setIfInBounds_toArray, List.set_cons_zero, List.set_cons_succ]
  refine wpAnyH_ready (rs := [2]) (by kernel_rfl) (by simp) ?_
  refine AllReadyH.cons (o := { dst := some 12, op := Go.Op.call { callee := Go.Callee.value (Go.Operand.func 18), args := #[Go.Operand.tmp 11], argTypes := #[23] }, type := 3, pos := "rlog.go:110", after := #[{ on := 1, ground := Go.Ground.data }], guard := none }) rfl (fun K hK => ?_) AllReadyH.nil
  go_simp
  go_at_call 18
  refine Calls.mono cl ?_
  rintro ev w2 ⟨rfl, q, rfl⟩
  try simp only []
  refine hK.out _ _ trivial (fun hHeld2 => ?_)
  clear hK K
  try simp only [Act.put, List.setIfInBounds_toArray, List.set_cons_zero, List.set_cons_succ]
  refine wpAnyH_take (i := 3) (oi := { dst := some 13, op := Go.Op.binOp Go.BinOp.leq 3 (Go.Operand.tmp 10) (Go.Operand.tmp 12) 3, type := 4, pos := "rlog.go:110", after := #[{ on := 0, ground := Go.Ground.data }, { on := 2, ground := Go.Ground.data }], guard := none }) (v := ?v3) rfl (by kernel_rfl) (by kernel_rfl) (by kernel_rfl) (fun _ _ _ h => h) (Or.inl ⟨by rfl, ?y3⟩) (by assumption) ?r3
  case y3 => (intro w hSw; (try dsimp only at hSw); go_simp; try with_reducible rfl)
  try simp only [Act.put, List.setIfInBounds_toArray, List.set_cons_zero, List.set_cons_succ]
  refine wpAnyH_take (i := 4) (oi := { dst := some 14, op := Go.Op.move (Go.Operand.tmp 13), type := 4, pos := "rlog.go:110", after := #[{ on := 3, ground := Go.Ground.data }, { on := 2, ground := Go.Ground.chain }], guard := none }) (v := ?v4) rfl (by kernel_rfl) (by kernel_rfl) (by kernel_rfl) (fun _ _ _ h => h) (Or.inl ⟨by rfl, ?y4⟩) (by assumption) ?r4
  case y4 => (intro w hSw; (try dsimp only at hSw); go_simp; try with_reducible rfl)
  try simp only [Act.put, List.setIfInBounds_toArray, List.set_cons_zero, List.set_cons_succ]
  refine wpAnyH_take (i := 5) (oi := { dst := some 15, op := Go.Op.move (Go.Operand.tmp 0), type := 23, pos := "rlog.go:110", after := #[{ on := 4, ground := Go.Ground.guard }], guard := some (4, true) }) (v := undef) rfl (by kernel_rfl) (by kernel_rfl) (by kernel_rfl) (fun _ _ _ h => h) (Or.inr ⟨by rfl, rfl⟩) (by assumption) ?_
  try simp only [Act.put, List.setIfInBounds_toArray, List.set_cons_zero, List.set_cons_succ]
  refine wpAnyH_take (i := 6) (oi := { dst := some 16, op := Go.Op.move (Go.Operand.tmp 1), type := 3, pos := "rlog.go:110", after := #[{ on := 4, ground := Go.Ground.guard }], guard := some (4, true) }) (v := undef) rfl (by kernel_rfl) (by kernel_rfl) (by kernel_rfl) (fun _ _ _ h => h) (Or.inr ⟨by rfl, rfl⟩) (by assumption) ?_
  try simp only [Act.put, List.setIfInBounds_toArray, List.set_cons_zero, List.set_cons_succ]
  refine wpAnyH_take (i := 7) (oi := { dst := some 17, op := Go.Op.call { callee := Go.Callee.value (Go.Operand.func 19), args := #[Go.Operand.tmp 15, Go.Operand.tmp 16], argTypes := #[23, 3] }, type := 3, pos := "rlog.go:110", after := #[{ on := 5, ground := Go.Ground.data }, { on := 6, ground := Go.Ground.data }, { on := 4, ground := Go.Ground.chain }, { on := 4, ground := Go.Ground.guard }], guard := some (4, true) }) (v := undef) rfl (by kernel_rfl) (by kernel_rfl) (by kernel_rfl) (fun _ _ _ h => h) (Or.inr ⟨by rfl, rfl⟩) (by assumption) ?_
  try simp only [Act.put, List.setIfInBounds_toArray, List.set_cons_zero, List.set_cons_succ]
  refine wpAnyH_take (i := 8) (oi := { dst := some 18, op := Go.Op.fieldAddr 46 (Go.Operand.tmp 5) 0, type := 0, pos := "rlog.go:110", after := #[{ on := 4, ground := Go.Ground.guard }], guard := some (4, true) }) (v := undef) rfl (by kernel_rfl) (by kernel_rfl) (by kernel_rfl) (fun _ _ _ h => h) (Or.inr ⟨by rfl, rfl⟩) (by assumption) ?_
  try simp only [Act.put, List.setIfInBounds_toArray, List.set_cons_zero, List.set_cons_succ]
  refine wpAnyH_take (i := 9) (oi := { dst := some 19, op := Go.Op.load 3 (Go.Operand.tmp 18), type := 3, pos := "rlog.go:110", after := #[{ on := 8, ground := Go.Ground.data }, { on := 4, ground := Go.Ground.guard }], guard := some (4, true) }) (v := undef) rfl (by kernel_rfl) (by kernel_rfl) (by kernel_rfl) (fun _ _ _ h => h) (Or.inr ⟨by rfl, rfl⟩) (by assumption) ?_
  try simp only [Act.put, List.setIfInBounds_toArray, List.set_cons_zero, List.set_cons_succ]
  refine wpAnyH_take (i := 10) (oi := { dst := some 20, op := Go.Op.binOp Go.BinOp.eql 3 (Go.Operand.tmp 17) (Go.Operand.tmp 19) 3, type := 4, pos := "rlog.go:110", after := #[{ on := 7, ground := Go.Ground.data }, { on := 9, ground := Go.Ground.data }, { on := 4, ground := Go.Ground.guard }], guard := some (4, true) }) (v := undef) rfl (by kernel_rfl) (by kernel_rfl) (by kernel_rfl) (fun _ _ _ h => h) (Or.inr ⟨by rfl, rfl⟩) (by assumption) ?_
  try simp only [Act.put, List.setIfInBounds_toArray, List.set_cons_zero, List.set_cons_succ]
  refine wpAnyH_take (i := 11) (oi := { dst := some 21, op := Go.Op.pick (Go.Operand.tmp 14) (Go.Operand.tmp 20) (Go.Operand.const (Go.Value.bool false)), type := 4, pos := "rlog.go:110", after := #[{ on := 4, ground := Go.Ground.data }, { on := 10, ground := Go.Ground.data }], guard := none }) (v := ?v11) rfl (by kernel_rfl) (by kernel_rfl) (by kernel_rfl) (fun _ _ _ h => h) (Or.inl ⟨by rfl, ?y11⟩) (by assumption) ?r11
  case y11 => (intro w hSw; (try dsimp only at hSw); go_simp; try with_reducible rfl)
  try simp only [Act.put, List.setIfInBounds_toArray, List.set_cons_zero, List.set_cons_succ]
  refine wpAnyH_done (by kernel_rfl) ?_ _
  have hs2 : Below w1.heap.size w1 (w1.drew.drewN q) := below_drewN' (below_drew' (Below.refl _ _)) q
  generalize w1.drew.drewN q = w2 at *
  clear cl hat hatd hHeld
  have hx := below_at hs2 (lt_heap HX.out.1) HX.out.1
  have hb := HX.out.2.1.trans (hs2.mono HX.out.2.1.size)
  have h1 := HX.out.2.2.1.below hs2
  have ha1 := EN.at_.below HX.out.2.2.2 hs2
  clear HX
  clear hs2
  obtain ⟨hP, hQ⟩ := HPQ.out
  clear HPQ
  subst hP hQ
  have d0 := cell_atD hx 0 (v := .int .i64 e.t) rfl
  have d1 := cell_atD hx 1 (v := .int .i64 e.x) rfl
  have d2 := cell_atD hx 2 (v := .int .i64 e.c.e) rfl
  have d3 := cell_atD hx 3 (v := .int .i64 e.c.b) rfl
  have d4 := cell_atD hx 4 (v := .int .i64 e.c.k) rfl
  have d5 := cell_atD hx 5 (v := .slice e.a1 e.c.M.length e.q1) rfl
  have d6 := cell_atD hx 6 (v := .slice e.a2 e.c.C.length e.q2) rfl
  have ce := emayE e.t e.x e.c e.a1 e.a2 e.q1 e.q2 w2 ha1
  rw [hm] at ce
  have HM := Lib.hid hm
  clear hm
  have HX := Lib.hid (And.intro hx (And.intro hb (And.intro h1 ha1)))
  clear hx hb h1 ha1
  go_wp2_with fail
  refine Calls.mono ce ?_
  rintro ev w3 ⟨rfl, hs3⟩
  clear ce d0 d1 d2 d3 d4 d5 d6
  have hx := below_at hs3 (lt_heap HX.out.1) HX.out.1
  have hb := HX.out.2.1.trans (hs3.mono HX.out.2.1.size)
  have h1 := HX.out.2.2.1.below hs3
  have ha1 := EN.at_.below HX.out.2.2.2 hs3
  clear HX
  clear hs3
  obtain ⟨g0, g1, g2, gf⟩ := h1.cells
  have HX := Lib.hid (And.intro hx (And.intro hb (And.intro h1 ha1)))
  clear hx hb h1 ha1
  have hgi := hgs
  rcases HC.out with ⟨rfl, rfl⟩ | ⟨b, c, rfl, hnc, hcm⟩
  · clear HC
    go_upto_region 7 with fail
    have hF := logF_of HX.out.2.2.1 (n := 0) (by have := HN.out; omega)
    have hO : Only g w (w3.setCell ⟨g, 2, none⟩ (.slice none 0 0)) := (onlyB HX.out.2.1).trans only_set
    have hat : EN.at_ e (w3.setCell ⟨g, 2, none⟩ (.slice none 0 0)) := atF HX.out.2.2.2 HF0.out
    have hxs : (w3.setCell ⟨g, 2, none⟩ (.slice none 0 0)).heap[w.heap.size]? = some _ := (heap_setCell_other _ _ _ _ hng).trans HX.out.1
    generalize w3.setCell ⟨g, 2, none⟩ (.slice none 0 0) = w4 at *
    have d0 := cell_atD hxs 0 (v := .int .i64 e.t) rfl
    have d1 := cell_atD hxs 1 (v := .int .i64 e.x) rfl
    have d2 := cell_atD hxs 2 (v := .int .i64 e.c.e) rfl
    have d3 := cell_atD hxs 3 (v := .int .i64 e.c.b) rfl
    have d4 := cell_atD hxs 4 (v := .int .i64 e.c.k) rfl
    have d5 := cell_atD hxs 5 (v := .slice e.a1 e.c.M.length e.q1) rfl
    have d6 := cell_atD hxs 6 (v := .slice e.a2 e.c.C.length e.q2) rfl
    have ca := raddF e w4 hat hs HM.out N g _ _ ts hF (by have := HN.out; omega) (by omega)
    have HO := Lib.hid hO
    clear hO hF hat hxs g0 g1 g2 gf HX
    go_wp2_with fail
    refine Calls.mono ca ?_
    rintro ev w5 ⟨rfl, b1, p1, b2, p2, v', hL, hO5⟩
    have HL := Lib.hid (And.intro hL (HO.out.trans hO5))
    clear hL hO5 ca d0 d1 d2 d3 d4 d5 d6
    go_wp2_with fail
    go_ret
    exact ⟨ret_bool rfl, b1, p1, b2, p2, v', HL.out.1, HL.out.2⟩
  · clear HC
    unfold maxLen at hcm
    go_upto_region 7 with fail
    have hF := logF_of HX.out.2.2.1 (n := n) (by have := HN.out; omega)
    have hO : Only g w (w3.setCell ⟨g, 2, none⟩ (.slice (some ⟨b, 0, none⟩) n n)) := (onlyB HX.out.2.1).trans only_set
    have hat : EN.at_ e (w3.setCell ⟨g, 2, none⟩ (.slice (some ⟨b, 0, none⟩) n n)) := atF HX.out.2.2.2 HF0.out
    have hxs : (w3.setCell ⟨g, 2, none⟩ (.slice (some ⟨b, 0, none⟩) n n)).heap[w.heap.size]? = some _ := (heap_setCell_other _ _ _ _ hng).trans HX.out.1
    generalize w3.setCell ⟨g, 2, none⟩ (.slice (some ⟨b, 0, none⟩) n n) = w4 at *
    have d0 := cell_atD hxs 0 (v := .int .i64 e.t) rfl
    have d1 := cell_atD hxs 1 (v := .int .i64 e.x) rfl
    have d2 := cell_atD hxs 2 (v := .int .i64 e.c.e) rfl
    have d3 := cell_atD hxs 3 (v := .int .i64 e.c.b) rfl
    have d4 := cell_atD hxs 4 (v := .int .i64 e.c.k) rfl
    have d5 := cell_atD hxs 5 (v := .slice e.a1 e.c.M.length e.q1) rfl
    have d6 := cell_atD hxs 6 (v := .slice e.a2 e.c.C.length e.q2) rfl
    have ca := raddF e w4 hat hs HM.out N g _ _ ts hF (by have := HN.out; omega) (by omega)
    have HO := Lib.hid hO
    clear hO hF hat hxs g0 g1 g2 gf HX
    go_wp2_with fail
    refine Calls.mono ca ?_
    rintro ev w5 ⟨rfl, b1, p1, b2, p2, v', hL, hO5⟩
    have HL := Lib.hid (And.intro hL (HO.out.trans hO5))
    clear hL hO5 ca d0 d1 d2 d3 d4 d5 d6
    go_wp2_with fail
    go_ret
    exact ⟨ret_bool rfl, b1, p1, b2, p2, v', HL.out.1, HL.out.2⟩
end Go.Proofs.Ytkdmnhmlkcejfaa
