/-
  trace.Get: the act of a frame. Written by gentre.py.
-/
import Derived.Test.YtkdmnhmlkcejfaaDoorTrD
namespace Go.Proofs.YtkdmnhmlkcejfaaDoor
open Go.RowKit
set_option linter.unusedVariables false
set_option linter.unusedSimpArgs false

/-- the first error of an act's frame, and the act -/
def errG (s : List UInt8) : Int := if getE s = 0 then actE (getB s) else getE s
def outG (s : List UInt8) : TA := if getE s = 0 then outT (getB s) else zT
theorem outG_le (s : List UInt8) : NodesL (outG s).M ∧ NodesL (outG s).C := by
  unfold outG
  split
  · exact outT_le _
  · exact ⟨⟨by decide, by simp [zT]⟩, ⟨by decide, by simp [zT]⟩⟩
set_option maxHeartbeats 6400000 in
set_option maxRecDepth 100000 in
theorem tget (s : List UInt8) (w : World) (hT : Tab w) :
    Calls Tryd.prog 45 #[.string ⟨s.toArray⟩] w fun e w' => (∃ vm vc, e = .returned (.tuple #[.agg (actC (outG s) vm vc), .int .i64 (errG s)]) ∧ RW w' w.heap.size (outG s) vm vc) ∧ Below w.heap.size w w' := by
  have hx := heap_alloc_self w (.cells zC 54)
  have hb := (Below.refl w.heap.size w).alloc (Nat.le_refl _) (.cells zC 54)
  have cg := fget s (w.alloc (.cells zC 54)) (hT.below hb)
  have HX := Lib.hid (And.intro hx hb)
  clear hT hx hb
  go_enter Tryd.func45, Tryd.ntmps45
  go_wp2_with fail
  refine Calls.mono cg ?_
  rintro e w1 ⟨rfl, hb1⟩
  have HX1 := Lib.hid (And.intro (below_at hb1 (lt_heap HX.out.1) HX.out.1) (HX.out.2.trans (hb1.mono HX.out.2.size)))
  clear cg hb1 HX
  obtain ⟨E, hE⟩ : ∃ E, getE s = E := ⟨_, rfl⟩
  obtain ⟨B, hB⟩ : ∃ E, getB s = E := ⟨_, rfl⟩
  rw [hE, hB]
  have HE := Lib.hid (And.intro hE hB)
  clear hE hB
  by_cases hE0 : E = 0
  · subst hE0
    have HO := Lib.hid (show outG s = outT B ∧ errG s = actE B from ⟨by unfold outG; rw [if_pos HE.out.1, HE.out.2], by unfold errG; rw [if_pos HE.out.1, HE.out.2]⟩)
    have ca := tact B w1
    go_wp2_with fail
    refine Calls.mono ca ?_
    rintro e w2 ⟨⟨vm, vc, rfl, hat⟩, hb2⟩
    obtain ⟨aM, pM, hvm, -, -⟩ := (SR.owns hat.m).form
    obtain ⟨aC, pC, hvc, -, -⟩ := (SR.owns hat.c).form
    subst hvm hvc
    obtain ⟨mn, hmn⟩ : ∃ mn, (outT B).M.length = mn := ⟨_, rfl⟩
    obtain ⟨cn, hcn⟩ : ∃ cn, (outT B).C.length = cn := ⟨_, rfl⟩
    rw [hmn, hcn] at hat ⊢
    have HB2 := Lib.hid (And.intro hat (And.intro (HX1.out.2.trans (hb2.mono HX1.out.2.size)) (And.intro (below_at hb2 (lt_heap HX1.out.1) HX1.out.1) (lt_heap HX1.out.1))))
    clear hat hb2 ca hmn hcn
    obtain ⟨t, ht⟩ : ∃ t, outT B = t := ⟨_, rfl⟩
    obtain ⟨F, hF⟩ : ∃ F, actE B = F := ⟨_, rfl⟩
    rw [ht, hF] at HO
    rw [ht] at HB2
    rw [ht, hF]
    clear ht hF
    unfold actC
    have hR := HB2.out.2.2.1
    have z0 := cell_at hR 0 (v := (.int .i64 0)) rfl
    have z1 := cell_at hR 1 (v := (.int .i64 0)) rfl
    have z2 := cell_at hR 2 (v := (.int .i64 0)) rfl
    have z3 := cell_at hR 3 (v := (.int .i64 0)) rfl
    have z4 := cell_at hR 4 (v := (.int .i64 0)) rfl
    have z5 := cell_at hR 5 (v := (.int .i64 0)) rfl
    have z6 := cell_at hR 6 (v := (.int .i64 0)) rfl
    have z7 := cell_at hR 7 (v := (.string ⟨#[]⟩)) rfl
    have z8 := cell_at hR 8 (v := (.bool false)) rfl
    have z9 := cell_at hR 9 (v := (.slice none 0 0)) rfl
    have z10 := cell_at hR 10 (v := (.slice none 0 0)) rfl
    have z11 := cell_at hR 11 (v := (.string ⟨#[]⟩)) rfl
    have fzr : ∀ j, w2.frozen? ⟨w.heap.size, j, none⟩ = false := fun j => by simp [World.frozen?, hR]
    have fz0 := fzr 0
    have fz1 := fzr 1
    have fz2 := fzr 2
    have fz3 := fzr 3
    have fz4 := fzr 4
    have fz5 := fzr 5
    have fz6 := fzr 6
    have fz7 := fzr 7
    have fz8 := fzr 8
    have fz9 := fzr 9
    have fz10 := fzr 10
    have fz11 := fzr 11
    have hch := set12 (.int .i64 0) (.int .i64 0) (.int .i64 0) (.int .i64 0) (.int .i64 0) (.int .i64 0) (.int .i64 0) (.string ⟨#[]⟩) (.bool false) (.slice none 0 0) (.slice none 0 0) (.string ⟨#[]⟩) (.int .i64 t.W) (.int .i64 t.P) (.int .i64 t.A) (.int .i64 t.B) (.int .i64 t.aW) (.int .i64 t.aA) (.int .i64 t.aL) (.string ⟨t.D.toArray⟩) (.bool t.u) (.slice aM mn pM) (.slice aC cn pC) (.string ⟨t.S.toArray⟩) hR
    have HCH := Lib.hid hch
    clear hch hR fzr
    go_wp2_with fail
    generalize ((((((((((((w2.setCell ⟨w.heap.size, 0, none⟩ (.int .i64 t.W)).setCell ⟨w.heap.size, 1, none⟩ (.int .i64 t.P)).setCell ⟨w.heap.size, 2, none⟩ (.int .i64 t.A)).setCell ⟨w.heap.size, 3, none⟩ (.int .i64 t.B)).setCell ⟨w.heap.size, 4, none⟩ (.int .i64 t.aW)).setCell ⟨w.heap.size, 5, none⟩ (.int .i64 t.aA)).setCell ⟨w.heap.size, 6, none⟩ (.int .i64 t.aL)).setCell ⟨w.heap.size, 7, none⟩ (.string ⟨t.D.toArray⟩)).setCell ⟨w.heap.size, 8, none⟩ (.bool t.u)).setCell ⟨w.heap.size, 9, none⟩ (.slice aM mn pM)).setCell ⟨w.heap.size, 10, none⟩ (.slice aC cn pC)).setCell ⟨w.heap.size, 11, none⟩ (.string ⟨t.S.toArray⟩)) = wf at *
    have fi := HCH.out.1
    have y0 := cell_at fi 0 (v := (.int .i64 t.W)) rfl
    have y1 := cell_at fi 1 (v := (.int .i64 t.P)) rfl
    have y2 := cell_at fi 2 (v := (.int .i64 t.A)) rfl
    have y3 := cell_at fi 3 (v := (.int .i64 t.B)) rfl
    have y4 := cell_at fi 4 (v := (.int .i64 t.aW)) rfl
    have y5 := cell_at fi 5 (v := (.int .i64 t.aA)) rfl
    have y6 := cell_at fi 6 (v := (.int .i64 t.aL)) rfl
    have y7 := cell_at fi 7 (v := (.string ⟨t.D.toArray⟩)) rfl
    have y8 := cell_at fi 8 (v := (.bool t.u)) rfl
    have y9 := cell_at fi 9 (v := (.slice aM mn pM)) rfl
    have y10 := cell_at fi 10 (v := (.slice aC cn pC)) rfl
    have y11 := cell_at fi 11 (v := (.string ⟨t.S.toArray⟩)) rfl
    clear fi
    refine bodyPost_ret (v := .tuple #[.agg #[(.int .i64 t.W), (.int .i64 t.P), (.int .i64 t.A), (.int .i64 t.B), (.int .i64 t.aW), (.int .i64 t.aA), (.int .i64 t.aL), (.string ⟨t.D.toArray⟩), (.bool t.u), (.slice aM mn pM), (.slice aC cn pC), (.string ⟨t.S.toArray⟩)], .int .i64 F]) (by simp [results, Tryd.results45, go_sem, y0, y1, y2, y3, y4, y5, y6, y7, y8, y9, y10, y11]) rfl ?_
    exact ⟨⟨.slice aM mn pM, .slice aC cn pC, by rw [HO.out.1, HO.out.2]; rfl, by rw [HO.out.1]; exact (HB2.out.1.kept HCH.out.2 HB2.out.2.2.2).raise (Nat.le_of_lt HB2.out.2.2.2)⟩, HB2.out.2.1.trans (HCH.out.2.below (Nat.le_refl _) (Nat.le_of_lt (lt_heap HB2.out.2.2.1)))⟩
  · have heb : (E != 0) = true := by simpa using hE0
    have HO := Lib.hid (show outG s = zT ∧ errG s = E from ⟨by unfold outG; rw [if_neg (by rw [HE.out.1]; exact hE0)], by unfold errG; rw [if_neg (by rw [HE.out.1]; exact hE0), HE.out.1]⟩)
    clear hE0
    have hR := HX1.out.1
    have z0 := cell_at hR 0 (v := (.int .i64 0)) rfl
    have z1 := cell_at hR 1 (v := (.int .i64 0)) rfl
    have z2 := cell_at hR 2 (v := (.int .i64 0)) rfl
    have z3 := cell_at hR 3 (v := (.int .i64 0)) rfl
    have z4 := cell_at hR 4 (v := (.int .i64 0)) rfl
    have z5 := cell_at hR 5 (v := (.int .i64 0)) rfl
    have z6 := cell_at hR 6 (v := (.int .i64 0)) rfl
    have z7 := cell_at hR 7 (v := (.string ⟨#[]⟩)) rfl
    have z8 := cell_at hR 8 (v := (.bool false)) rfl
    have z9 := cell_at hR 9 (v := (.slice none 0 0)) rfl
    have z10 := cell_at hR 10 (v := (.slice none 0 0)) rfl
    have z11 := cell_at hR 11 (v := (.string ⟨#[]⟩)) rfl
    have fzr : ∀ j, w1.frozen? ⟨w.heap.size, j, none⟩ = false := fun j => by simp [World.frozen?, hR]
    have fz0 := fzr 0
    have fz1 := fzr 1
    have fz2 := fzr 2
    have fz3 := fzr 3
    have fz4 := fzr 4
    have fz5 := fzr 5
    have fz6 := fzr 6
    have fz7 := fzr 7
    have fz8 := fzr 8
    have fz9 := fzr 9
    have fz10 := fzr 10
    have fz11 := fzr 11
    have hch := set12 (.int .i64 0) (.int .i64 0) (.int .i64 0) (.int .i64 0) (.int .i64 0) (.int .i64 0) (.int .i64 0) (.string ⟨#[]⟩) (.bool false) (.slice none 0 0) (.slice none 0 0) (.string ⟨#[]⟩) (.int .i64 0) (.int .i64 0) (.int .i64 0) (.int .i64 0) (.int .i64 0) (.int .i64 0) (.int .i64 0) (.string ⟨#[]⟩) (.bool false) (.slice none 0 0) (.slice none 0 0) (.string ⟨#[]⟩) hR
    have HCH := Lib.hid hch
    clear hch hR fzr
    go_wp2_with fail
    generalize ((((((((((((w1.setCell ⟨w.heap.size, 0, none⟩ (.int .i64 0)).setCell ⟨w.heap.size, 1, none⟩ (.int .i64 0)).setCell ⟨w.heap.size, 2, none⟩ (.int .i64 0)).setCell ⟨w.heap.size, 3, none⟩ (.int .i64 0)).setCell ⟨w.heap.size, 4, none⟩ (.int .i64 0)).setCell ⟨w.heap.size, 5, none⟩ (.int .i64 0)).setCell ⟨w.heap.size, 6, none⟩ (.int .i64 0)).setCell ⟨w.heap.size, 7, none⟩ (.string ⟨#[]⟩)).setCell ⟨w.heap.size, 8, none⟩ (.bool false)).setCell ⟨w.heap.size, 9, none⟩ (.slice none 0 0)).setCell ⟨w.heap.size, 10, none⟩ (.slice none 0 0)).setCell ⟨w.heap.size, 11, none⟩ (.string ⟨#[]⟩)) = wf at *
    have fi := HCH.out.1
    have y0 := cell_at fi 0 (v := (.int .i64 0)) rfl
    have y1 := cell_at fi 1 (v := (.int .i64 0)) rfl
    have y2 := cell_at fi 2 (v := (.int .i64 0)) rfl
    have y3 := cell_at fi 3 (v := (.int .i64 0)) rfl
    have y4 := cell_at fi 4 (v := (.int .i64 0)) rfl
    have y5 := cell_at fi 5 (v := (.int .i64 0)) rfl
    have y6 := cell_at fi 6 (v := (.int .i64 0)) rfl
    have y7 := cell_at fi 7 (v := (.string ⟨#[]⟩)) rfl
    have y8 := cell_at fi 8 (v := (.bool false)) rfl
    have y9 := cell_at fi 9 (v := (.slice none 0 0)) rfl
    have y10 := cell_at fi 10 (v := (.slice none 0 0)) rfl
    have y11 := cell_at fi 11 (v := (.string ⟨#[]⟩)) rfl
    clear fi
    refine bodyPost_ret (v := .tuple #[.agg #[(.int .i64 0), (.int .i64 0), (.int .i64 0), (.int .i64 0), (.int .i64 0), (.int .i64 0), (.int .i64 0), (.string ⟨#[]⟩), (.bool false), (.slice none 0 0), (.slice none 0 0), (.string ⟨#[]⟩)], .int .i64 E]) (by simp [results, Tryd.results45, go_sem, y0, y1, y2, y3, y4, y5, y6, y7, y8, y9, y10, y11]) rfl ?_
    exact ⟨⟨.slice none 0 0, .slice none 0 0, by rw [HO.out.1, HO.out.2]; rfl, by rw [HO.out.1]; exact zT_rw wf _⟩, HX1.out.2.trans (HCH.out.2.below (Nat.le_refl _) (Nat.le_of_lt (lt_heap HX1.out.1)))⟩
end Go.Proofs.YtkdmnhmlkcejfaaDoor
