/-
  disk.end, Sync, Crash: what becomes of the writings that are not sure.
-/
import Derived.Test.YtlhjgpedmnjbpaaDiskE
namespace Go.Proofs.Ytlhjgpedmnjbpaa
open Go.RowKit
set_option linter.unusedVariables false
set_option linter.unusedSimpArgs false

def frontS (a : ByteArray) : ByteArray := a.extract 0 32
def backS (a : ByteArray) : ByteArray := a.extract 32 a.size
/-- what a writing's fate leaves -/
def fateS (f : Int) (S : List ByteArray) (x : Nat × ByteArray) : List ByteArray :=
  if f = 1 then S.set x.1 x.2 else if f = 2 then S.set x.1 (frontS x.2 ++ backS (S.getD x.1 ⟨#[]⟩)) else if f = 3 then S.set x.1 (frontS (S.getD x.1 ⟨#[]⟩) ++ backS x.2) else S
def endS (fate : Nat → Int) : Nat → List ByteArray → List (Nat × ByteArray) → List ByteArray
  | _, S, [] => S
  | k, S, x :: L => endS fate (k + 1) (fateS (fate k) S x) L
theorem fateS_length (f : Int) (S : List ByteArray) (x : Nat × ByteArray) : (fateS f S x).length = S.length := by
  unfold fateS
  repeat' split
  all_goals simp
theorem endS_length (fate : Nat → Int) (k : Nat) (S : List ByteArray) (L : List (Nat × ByteArray)) : (endS fate k S L).length = S.length := by
  induction L generalizing k S with
  | nil => rfl
  | cons x L ih => simp [endS, ih, fateS_length]
theorem front_size {a : ByteArray} (h : a.size = 64) : (frontS a).size = 32 := by simp [frontS, ByteArray.size_extract, h]
theorem back_size {a : ByteArray} (h : a.size = 64) : (backS a).size = 32 := by simp [backS, ByteArray.size_extract, h]
theorem fateS_sizes (f : Int) (S : List ByteArray) (x : Nat × ByteArray) (hS : ∀ s ∈ S, s.size = 64) (hx : x.1 < S.length ∧ x.2.size = 64) : ∀ s ∈ fateS f S x, s.size = 64 := by
  have hw : (S.getD x.1 ⟨#[]⟩).size = 64 := by
    rw [List.getD_eq_getElem?_getD, List.getElem?_eq_getElem hx.1]
    exact hS _ (List.getElem_mem _)
  have hset : ∀ v : ByteArray, v.size = 64 → ∀ s ∈ S.set x.1 v, s.size = 64 := by
    intro v hv s hs
    rcases List.mem_or_eq_of_mem_set hs with h | h
    · exact hS s h
    · rw [h]; exact hv
  intro s
  unfold fateS
  repeat' split
  · exact hset _ hx.2 s
  · exact hset _ (by rw [ByteArray.size_append, front_size hx.2, back_size hw]) s
  · exact hset _ (by rw [ByteArray.size_append, front_size hw, back_size hx.2]) s
  · exact hS s
/-- a sector that is made sure -/
theorem dsk_set {w : World} {N p g cap n : Nat} {lv : Value} {S : List ByteArray} {L : List (Nat × ByteArray)} (h : Dsk w N p (.slice (some ⟨g, 0, none⟩) n cap) lv S L) (k : Nat) (v : ByteArray) (hv : ∀ s ∈ S.set k v, s.size = 64) :
    Dsk (w.setCell ⟨g, k, none⟩ (.string v)) N p (.slice (some ⟨g, 0, none⟩) n cap) lv (S.set k v) L ∧ DKept w (w.setCell ⟨g, k, none⟩ (.string v)) N p (.slice (some ⟨g, 0, none⟩) n cap) lv lv := by
  have hn : n = S.length := by
    rcases h.sure.2 with ⟨h', _⟩ | ⟨g', cap', cur, h', _⟩
    · simp at h'
    · injection h'
  subst hn
  obtain ⟨h1, h2⟩ := h.sure.stored k (.string v)
  have hpg : p ≠ g := fun e => row_other h.sure h.obj (by decide) (by rw [e]; rfl)
  have hl : lv.ownBlock = none ∨ lv.ownBlock ≠ some g := by
    cases hl : lv.ownBlock with
    | none => exact .inl rfl
    | some j => exact .inr fun e => rows_apart h.later h.sure (by decide) j hl (by cases e; rfl)
  refine ⟨⟨h.hp, (h2.block p h.lt (fun e => hpg (by cases e; rfl))).trans h.obj, ?_, h.later.kept h2 hl, hv, by simpa using h.ats, by simpa using h.most⟩, ?_, ?_, .inl rfl⟩
  · rw [sCells_set] at h1
    simpa using h1
  · exact (Below.refl N w).grown h2 h.le (fun j e => by cases e; exact (h.sure.lt g rfl).1)
  · intro j hj hp hs hl'
    exact h2.block j hj hs
/-- no writing is left -/
theorem dsk_nil {w : World} {N p : Nat} {sv lv : Value} {S : List ByteArray} {L : List (Nat × ByteArray)} (h : Dsk w N p sv lv S L) : Dsk (w.setCell ⟨p, 1, none⟩ (.slice none 0 0)) N p sv (.slice none 0 0) S [] ∧ DKept w (w.setCell ⟨p, 1, none⟩ (.slice none 0 0)) N p sv lv (.slice none 0 0) := by
  have hso := row_other h.sure h.obj (by decide)
  have hgp : w.grownBy (w.setCell ⟨p, 1, none⟩ (.slice none 0 0)) (some p) := ⟨rfl, rfl, rfl, by simp, fun k _ hk => heap_setCell_other _ _ _ _ (fun e => hk (by rw [e]))⟩
  refine ⟨⟨h.hp, ?_, h.sure.kept hgp (.inr hso), World.ownsRow_nil _ _ _ _, h.sizes, by simp, h.most⟩, ?_, ?_, .inr (fun k e => by cases e)⟩
  · rw [heap_setCell_same _ _ _ _ _ _ h.obj]
    rfl
  · exact (Below.refl N w).setCell (p := ⟨p, 1, none⟩) h.hp _
  · intro k hk hp _ _
    exact heap_setCell_other _ _ _ _ hp

/-- what the loop of end keeps -/
structure ERel (fate : Nat → Int) (w wr : World) (N p j : Nat) (sv lv : Value) (S0 S : List ByteArray) (L : List (Nat × ByteArray)) : Prop where
  dsk : Dsk wr N p sv lv S L
  kept : DKept w wr N p sv lv lv
  same : endS fate j S (L.drop j) = endS fate 0 S0 L
  len : S.length = S0.length
theorem ERel.below {fate : Nat → Int} {w wr wz : World} {N p j : Nat} {sv lv : Value} {S0 S : List ByteArray} {L : List (Nat × ByteArray)} (h : ERel fate w wr N p j sv lv S0 S L) (hb : Below wr.heap.size wr wz) : ERel fate w wz N p j sv lv S0 S L :=
  ⟨h.dsk.below hb, h.kept.trans (DKept.of_below h.dsk.le hb), h.same, h.len⟩
theorem drop_at {α : Type} (L : List α) (j : Nat) (x : α) (h : L[j]? = some x) : L.drop j = x :: L.drop (j + 1) := by
  obtain ⟨hl, rfl⟩ := List.getElem?_eq_some_iff.1 h
  exact List.drop_eq_getElem_cons hl
theorem ERel.step {fate : Nat → Int} {w wr w' : World} {N p j : Nat} {sv lv : Value} {S0 S : List ByteArray} {L : List (Nat × ByteArray)} {x : Nat × ByteArray} (h : ERel fate w wr N p j sv lv S0 S L) (hx : L[j]? = some x) (hd : Dsk w' N p sv lv (fateS (fate j) S x) L) (hk : DKept wr w' N p sv lv lv) :
    ERel fate w w' N p (j + 1) sv lv S0 (fateS (fate j) S x) L := by
  refine ⟨hd, h.kept.trans hk, ?_, (fateS_length _ _ _).trans h.len⟩
  have := h.same
  rw [drop_at L j x hx] at this
  exact this
/-- a writing in a block of its own -/
theorem block2 (w : World) (x y : Value) (t : TypeId) : (w.alloc (.cells #[x, y] t)).cell? ⟨w.heap.size, 0, none⟩ = some x ∧ (w.alloc (.cells #[x, y] t)).cell? ⟨w.heap.size, 1, none⟩ = some y := by
  exact ⟨by rw [World.cell?_alloc_at _ _ _ _ rfl]; rfl, by rw [World.cell?_alloc_at _ _ _ _ rfl]; rfl⟩

/-- a writing's fate: the sector is stored -/
theorem ERel.stored {fate : Nat → Int} {w wz : World} {N p j gs n caps xa : Nat} {lv : Value} {S0 S : List ByteArray} {L : List (Nat × ByteArray)} {xd v : ByteArray} (h : ERel fate w wz N p j (.slice (some ⟨gs, 0, none⟩) n caps) lv S0 S L) (hx : L[j]? = some (xa, xd))
    (hv : fateS (fate j) S (xa, xd) = S.set xa v) : ERel fate w (wz.setCell ⟨gs, xa, none⟩ (.string v)).drew N p (j + 1) (.slice (some ⟨gs, 0, none⟩) n caps) lv S0 (fateS (fate j) S (xa, xd)) L ∧ DKept wz (wz.setCell ⟨gs, xa, none⟩ (.string v)).drew N p (.slice (some ⟨gs, 0, none⟩) n caps) lv lv := by
  have hats := h.dsk.ats _ (List.mem_of_getElem? hx)
  have hsz := fateS_sizes (fate j) S (xa, xd) h.dsk.sizes hats
  obtain ⟨a, b⟩ := dsk_set h.dsk xa v (by rw [← hv]; exact hsz)
  have b2 : DKept wz (wz.setCell ⟨gs, xa, none⟩ (.string v)).drew N p (.slice (some ⟨gs, 0, none⟩) n caps) lv lv := ⟨below_drew' b.below, b.block, b.new⟩
  exact ⟨h.step hx (by rw [hv]; exact a.drew) b2, b2⟩

set_option maxHeartbeats 4000000 in
set_option maxRecDepth 400000 in
theorem dend (g : Nat) (lb : Array Value) (fate : Nat → Int) (R : World → Prop) (w : World) (N p : Nat) (sv lv : Value) (S : List ByteArray) (L : List (Nat × ByteArray)) (h : Dsk w N p sv lv S L) (hL : L.length ≤ 1000000)
    (eg : ∀ args w, (callFunc g args).run Try.prog w = .ok (.enter g args) w) (hR : R w) (hRk : ∀ {w1 w2 : World}, R w1 → DKept w w1 N p sv lv lv → DKept w1 w2 N p sv lv lv → R w2)
    (hf : ∀ (j : Nat) (w' : World), j < L.length → R w' → Calls Try.prog g (#[.int .i64 j] ++ lb) w' fun e w'' => e = .returned (.int .i64 (fate j)) ∧ Below w'.heap.size w' w'') :
    Calls Try.prog 124 #[.pointer (some ⟨p, 0, none⟩), .func (.func g) #[] lb] w fun e w' => e = .returned (.tuple #[]) ∧ Dsk w' N p sv (.slice none 0 0) (endS fate 0 S L) [] ∧ DKept w w' N p sv lv (.slice none 0 0) := by
  have hc0 := h.cell0
  have hc1 := h.cell1
  obtain ⟨a, cap, rfl, hlc, hcm, hcells⟩ := h.lform
  unfold maxLen at hcm
  clear hcells
  have HF := Lib.hid hf
  have HD := Lib.hid h
  clear hf h
  go_enter Try.func124, Try.ntmps124
  go_wp2_with fail
  go_loopw [14] (fun i wr => ∃ (j : Nat) (S' : List ByteArray), j ≤ L.length ∧ i = .int .i64 j ∧ R wr ∧ ERel fate w wr N p j sv (.slice a L.length cap) S S' L) (fun i _ => L.length - (intOf i).toNat)
  case atStart => exact ⟨0, S, Nat.zero_le _, rfl, hR, HD.out, DKept.refl _ _ _ _ _, rfl, rfl⟩
  case round =>
    obtain ⟨j, S', hj, rfl, hRr, hrel⟩ := hrel
    have hr1 := hrel.dsk.cell1
    have hr0 := hrel.dsk.cell0
    by_cases hlt : j < L.length
    · obtain ⟨x, hx⟩ : ∃ x, L[j]? = some x := ⟨_, List.getElem?_eq_getElem hlt⟩
      obtain ⟨a', cap', he, _, _, hcells⟩ := hrel.dsk.lform
      obtain ⟨g', hg', e0, e1⟩ := hcells j x hx
      simp only [Value.slice.injEq] at he
      obtain ⟨z1, _, z3⟩ := he
      subst z1 z3 hg'
      clear hcells
      have HR := Lib.hid hrel
      have HX := Lib.hid hx
      clear hrel hx
      have hats := HR.out.dsk.ats x (List.mem_of_getElem? HX.out)
      have hS0 : 0 < S'.length := by omega
      obtain ⟨gs, caps, rfl, hsle, hscm, hscells⟩ := HR.out.dsk.sform hS0
      unfold maxLen at hscm
      obtain ⟨V, hV⟩ : ∃ V, S'[x.1]? = some V := ⟨_, List.getElem?_eq_getElem hats.1⟩
      have hvc := hscells x.1 V hV
      have hVs : V.size = 64 := HR.out.dsk.sizes V (List.mem_of_getElem? hV)
      have hgd : S'.getD x.1 ⟨#[]⟩ = V := by rw [List.getD_eq_getElem?_getD, hV]; rfl
      have HG := Lib.hid hgd
      clear hscells hV hgd
      obtain ⟨xa, xd⟩ := x
      simp only at *
      have hxs := hats.2
      have hxa : (xa : Int) < S'.length := by omega
      have HA := Lib.hid hats
      clear hats
      go_upto_region 4 with fail
      obtain ⟨b0, b1⟩ := block2 wr (.int .i64 xa) (.string xd) 189
      have hr0' := (World.cell?_alloc_lt wr (.cells #[.int .i64 xa, .string xd] 189) ⟨p, 0, none⟩ HR.out.dsk.lt).trans hr0
      have hvc' := (World.cell?_alloc_lt wr (.cells #[.int .i64 xa, .string xd] 189) ⟨gs, xa, none⟩ (HR.out.dsk.sure.lt gs rfl).2).trans hvc
      have HR1 := Lib.hid (HR.out.below ((Below.refl _ _).alloc (Nat.le_refl _) (.cells #[.int .i64 xa, .string xd] 189)))
      have hRr1 := hRk hRr HR.out.kept (DKept.of_below HR.out.dsk.le ((Below.refl _ _).alloc (Nat.le_refl _) (.cells #[.int .i64 xa, .string xd] 189)))
      have hBs : wr.heap.size < (wr.alloc (.cells #[.int .i64 xa, .string xd] 189)).heap.size := by simp
      generalize wr.alloc (.cells #[.int .i64 xa, .string xd] 189) = W1 at *
      generalize wr.heap.size = B at *
      go_quiet (fail)
      have HR2 := Lib.hid (show ERel fate w (W1.drewN nq) N p j (.slice (some ⟨gs, 0, none⟩) S'.length caps) (.slice (some ⟨g', 0, none⟩) L.length cap) S S' L from HR1.out.below (below_drewN' (Below.refl _ _) nq))
      have hRr2 : R (W1.drewN nq) := hRk hRr1 HR1.out.kept (DKept.of_below HR1.out.dsk.le (below_drewN' (Below.refl _ _) nq))
      have c0 : (W1.drewN nq).cell? ⟨p, 0, none⟩ = some (.slice (some ⟨gs, 0, none⟩) S'.length caps) := hr0'
      have c1 : (W1.drewN nq).cell? ⟨gs, xa, none⟩ = some (.string V) := hvc'
      have c2 : (W1.drewN nq).cell? ⟨B, 0, none⟩ = some (.int .i64 xa) := b0
      have c3 : (W1.drewN nq).cell? ⟨B, 1, none⟩ = some (.string xd) := b1
      have c4 : B < (W1.drewN nq).heap.size := hBs
      generalize W1.drewN nq = W2 at *
      clear hr0' hvc' b0 b1 hBs hRr1 HR1
      have ch := HF.out j W2 hlt hRr2
      have eg2 := eg (#[.int .i64 j] ++ lb) W2
      go_wp2_with fail
      refine Calls.mono ch ?_
      rintro e wz ⟨rfl, hz⟩
      have HR3 := Lib.hid (HR2.out.below hz)
      have hRr3 := hRk hRr2 HR2.out.kept (DKept.of_below HR2.out.dsk.le hz)
      have d0 := (hz.cell (p := ⟨p, 0, none⟩) HR2.out.dsk.lt).trans c0
      have d1 := (hz.cell (p := ⟨gs, xa, none⟩) (HR2.out.dsk.sure.lt gs rfl).2).trans c1
      have d2 := (hz.cell (p := ⟨B, 0, none⟩) c4).trans c2
      have d3 := (hz.cell (p := ⟨B, 1, none⟩) c4).trans c3
      have d5 : wz.frozen? ⟨gs, xa, none⟩ = false := HR3.out.dsk.sure.frozenAt xa
      clear c0 c1 c2 c3 c4 hz ch eg2 hRr2 HR2 hRr
      obtain ⟨F, hF⟩ : ∃ F, fate j = F := ⟨_, rfl⟩
      rw [hF]
      have HFj := Lib.hid hF
      clear hF
      by_cases f1 : F = 1
      · subst f1
        go_upto_region 7 with fail
        go_region
        go_wp2_with fail
        have z := HR3.out.stored (v := xd) HX.out (by rw [HFj.out]; rfl)
        have Z1 := Lib.hid z.1
        have Z2 := Lib.hid z.2
        clear z
        go_roundw
        case rel => exact ⟨j + 1, _, by omega, by go_num, hRk hRr3 HR3.out.kept Z2.out, Z1.out⟩
        case measure => simp [intOf]; omega
      · have f1' : (F == 1) = false := by simp [f1]
        by_cases f2 : F = 2
        · subst f2
          go_upto_region 9 with fail
          go_region
          go_wp2_with fail
          have z := HR3.out.stored (v := xd.extract 0 32 ++ V.extract 32 64) HX.out (by rw [HFj.out]; unfold fateS frontS backS; simp only [HG.out, hVs]; rfl)
          have Z1 := Lib.hid z.1
          have Z2 := Lib.hid z.2
          clear z
          go_roundw
          case rel => exact ⟨j + 1, _, by omega, by go_num, hRk hRr3 HR3.out.kept Z2.out, Z1.out⟩
          case measure => simp [intOf]; omega
        · have f2' : (F == 2) = false := by simp [f2]
          by_cases f3 : F = 3
          · subst f3
            go_upto_region 11 with fail
            go_region
            go_wp2_with fail
            have z := HR3.out.stored (v := V.extract 0 32 ++ xd.extract 32 64) HX.out (by rw [HFj.out]; unfold fateS frontS backS; simp only [HG.out, hxs]; rfl)
            have Z1 := Lib.hid z.1
            have Z2 := Lib.hid z.2
            clear z
            go_roundw
            case rel => exact ⟨j + 1, _, by omega, by go_num, hRk hRr3 HR3.out.kept Z2.out, Z1.out⟩
            case measure => simp [intOf]; omega
          · have f3' : (F == 3) = false := by simp [f3]
            go_wp2_with fail
            go_roundw
            case rel => exact ⟨j + 1, _, by omega, by go_num, hRr3, HR3.out.step HX.out (by rw [HFj.out]; unfold fateS; rw [if_neg f1, if_neg f2, if_neg f3]; exact HR3.out.dsk) (DKept.refl _ _ _ _ _)⟩
            case measure => simp [intOf]; omega
    · obtain rfl : j = L.length := by omega
      have hd2 := dsk_nil hrel.dsk
      have hfin : ERel fate w wr N p L.length sv (.slice a L.length cap) S S' L := hrel
      have e : S' = endS fate 0 S L := by
        have := hrel.same
        rw [List.drop_length] at this
        exact this
      have HE := Lib.hid e
      have hfr := hrel.dsk.frozen 1
      have HD2 := Lib.hid hd2
      have HK := Lib.hid hrel.kept
      clear hd2 hrel hfin e
      go_wp2_with fail
      go_returns
      exact ⟨rfl, by rw [← HE.out]; exact HD2.out.1, HK.out.trans HD2.out.2⟩
end Go.Proofs.Ytlhjgpedmnjbpaa
