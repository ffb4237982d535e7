/-
  Several texts, laid together.
-/
import Derived.Test.YtadejhlljdcocaaMg12
/-
  tarnref09: Lay, whatever comes; Drop.
-/

namespace Go.Proofs.Ytadejhlljdcocaa
open Go.RowKit
set_option linter.unusedVariables false
set_option linter.unusedSimpArgs false

theorem rlay (l : List HI) (x : HI) (m : Bool) (w : World) (v : Value) (hs : Srt l) (hv : SR w v 3 l.length (hCells l)) (hw : (Lit.int .u64 x.v).wf = true) (hd : x.d.size ≤ 40) (hm : MayT m x.v x.d) :
    Calls Try.prog 114 #[v, .int .i64 x.b, .agg (itemA x.v x.d)] w (RLay w v m l x) := by
  by_cases hin : 0 ≤ x.b ∧ x.b < 64
  · obtain ⟨h0, h1⟩ := hin
    cases m
    · exact rlay_bad l x w v hv (by omega) (by omega) hm
    · cases hls : laysL l x
      · obtain ⟨_, y, hy, hn⟩ := lay_not hs hls
        exact rlay_old l x y w v hs hv (by omega) (by omega) hm hy hn
      · exact rlay_new l x w v hs hv ⟨h0, h1, hw, hd⟩ hm hls
  · exact rlay_out l x m w v hv (by omega)
def dropQ (b ver : Int) (h : HI) : Bool := h.b == b && decide (h.v ≤ ver)
theorem drop_snoc (l : List HI) (x : HI) (b ver : Int) : dropL (l ++ [x]) b ver = dropL l b ver ++ (if dropQ b ver x = true then [] else [x]) := by
  unfold dropL dropQ
  rw [List.filter_append]
  congr 1
  cases h : (x.b == b && decide (x.v ≤ ver)) <;> simp only [List.filter_cons, List.filter_nil, h] <;> rfl
theorem drops_any {l : List HI} (hs : Srt l) (b ver : Int) : l.any (dropQ b ver) = dropsL l b ver := by
  cases split_of l b hs.pw with
  | no A B e hA hB =>
    subst e
    rw [dropsL_no hA hB, List.any_eq_false]
    intro y hy
    have : y.b ≠ b := by
      rcases List.mem_append.1 hy with h | h
      · have := hA y h; omega
      · have := hB y h; omega
    simp [dropQ, this]
  | yes A y B e hy hA hB =>
    subst e
    rw [dropsL_yes hA hy, Bool.eq_iff_iff, List.any_eq_true]
    constructor
    · rintro ⟨z, hz, hq⟩
      simp only [dropQ, Bool.and_eq_true, beq_iff_eq, decide_eq_true_eq] at hq
      rcases List.mem_append.1 hz with h | h
      · have := hA z h; omega
      · rcases List.mem_cons.1 h with rfl | h
        · exact decide_eq_true hq.2
        · have := hB z h; omega
    · intro h
      exact ⟨y, by simp, by simp [dropQ, hy, of_decide_eq_true h]⟩
theorem drop_len (l : List HI) (b v : Int) : (dropL l b v).length ≤ l.length := List.length_filter_le _ _
end Go.Proofs.Ytadejhlljdcocaa
/-
  ItemsPlay: a set of items and the document's list beside it, through whatever is laid and dropped.
-/

namespace Go.Proofs.Ytadejhlljdcocaa
open Go.RowKit
set_option linter.unusedVariables false
set_option linter.unusedSimpArgs false

/-- a set at p, and beside it a slice that reads as the same items -/
structure IRel (w0 w : World) (p : Nat) (mv sv : Value) (l : List HI) : Prop where
  set : SetAt w w0.heap.size p sv l
  mir : SR w mv 3 l.length (hCells l)
  mlt : ∀ b, mv.ownBlock = some b → b < w.heap.size
  apart : Apart mv sv p
  below : Below w0.heap.size w0 w
theorem IRel.go {w0 w w' : World} {p : Nat} {mv sv : Value} {l : List HI} (h : IRel w0 w p mv sv l) (hb : Below w.heap.size w w') : IRel w0 w' p mv sv l :=
  ⟨h.set.below hb, h.mir.below hb, fun b e => Nat.lt_of_lt_of_le (h.mlt b e) hb.size, h.apart, h.below.trans (hb.mono h.below.size)⟩
theorem IRel.step {w0 w w1 w2 : World} {p : Nat} {mv mv' sv sv' : Value} {l l' : List HI} (h : IRel w0 w p mv sv l) (hb : Below w.heap.size w w1) (hm : SR w1 mv' 3 l'.length (hCells l')) (hn : NewRow w mv mv')
    (hlt : ∀ k, mv'.ownBlock = some k → mv.ownBlock = some k ∨ k < w1.heap.size) (hs : SetAt w2 w0.heap.size p sv' l') (hk : OKept w1 w2 w0.heap.size p sv sv') : IRel w0 w2 p mv' sv' l' := by
  have ha : Apart mv' sv p := by
    intro b e
    rcases hn with hn | hn
    · exact h.apart b (hn.symm.trans e)
    · have h1 := hn b e
      have h2 := lt_heap h.set.2.1
      refine ⟨by omega, fun e2 => ?_⟩
      have := (h.set.2.2.1.lt b e2.symm).2
      omega
  have hb' : ∀ b, mv'.ownBlock = some b → b < w1.heap.size := fun b e => by
    rcases hlt b e with q | q
    · exact Nat.lt_of_lt_of_le (h.mlt b q) hb.size
    · exact q
  exact ⟨hs, sr_kept hm ha hk, fun b e => Nat.lt_of_lt_of_le (hb' b e) hk.size, apart_kept ha hb' hk, (h.below.trans (hb.mono h.below.size)).trans hk.below⟩
/-- and a block of another's: it is neither the set's nor its row's -/
structure IBlk (w : World) (p : Nat) (sv : Value) (X : Nat) (o : Obj) : Prop where
  at_ : w.heap[X]? = some o
  ne : X ≠ p
  nr : some X ≠ sv.ownBlock
theorem IBlk.go {w w' : World} {p : Nat} {sv : Value} {X : Nat} {o : Obj} (h : IBlk w p sv X o) (hb : Below w.heap.size w w') : IBlk w' p sv X o := ⟨below_at hb (lt_heap h.at_) h.at_, h.ne, h.nr⟩
theorem IBlk.step {w w' : World} {N p : Nat} {sv sv' : Value} {X : Nat} {o : Obj} (h : IBlk w p sv X o) (hk : OKept w w' N p sv sv') : IBlk w' p sv' X o := by
  have hlt := lt_heap h.at_
  refine ⟨(hk.block X hlt h.ne h.nr).trans h.at_, h.ne, fun e => ?_⟩
  rcases hk.new with q | q
  · exact h.nr (e.trans q)
  · have := q X e.symm; omega
theorem IBlk.new {w0 w w' : World} {p : Nat} {mv sv : Value} {l : List HI} {X : Nat} {o : Obj} (h : IRel w0 w p mv sv l) (ha : w'.heap[X]? = some o) (hX : w.heap.size ≤ X) : IBlk w' p sv X o := by
  refine ⟨ha, ?_, fun e => ?_⟩
  · have := lt_heap h.set.2.1; omega
  · have := (h.set.2.2.1.lt X e.symm).2; omega
theorem irel_start (w : World) : IRel w ((w.alloc (.cells #[.slice none 0 0] 203)).alloc (.cells #[] 125)) w.heap.size (.slice (some ⟨w.heap.size + 1, 0, none⟩) 0 0) (.slice none 0 0) [] := by
  have h1 : (w.alloc (.cells #[.slice none 0 0] 203)).heap.size = w.heap.size + 1 := by simp
  have hb : Below (w.alloc (.cells #[.slice none 0 0] 203)).heap.size (w.alloc (.cells #[.slice none 0 0] 203)) ((w.alloc (.cells #[.slice none 0 0] 203)).alloc (.cells #[] 125)) := (Below.refl _ _).alloc (Nat.le_refl _) _
  refine ⟨(set_new w).below hb, ⟨_, 0, rfl, Nat.le_refl _, Nat.zero_le _, rfl, .inl rfl⟩, ?_, ?_, ((Below.refl _ _).alloc (Nat.le_refl _) _).trans (hb.mono (by omega))⟩
  · intro b e
    cases e
    simp
  · intro b e
    cases e
    exact ⟨by simp, fun e => by cases e⟩
/-- the document's Lay, as a step -/
theorem IRel.lay {w0 w w1 w2 : World} {p : Nat} {mv mv' sv sv' : Value} {l : List HI} {x : HI} {m : Bool} (h : IRel w0 w p mv sv l) (hb : Below w.heap.size w w1) (hm : SR w1 mv' 3 (putL m l x).length (hCells (putL m l x))) (hn : NewRow w mv mv')
    (hlt : ∀ k, mv'.ownBlock = some k → mv.ownBlock = some k ∨ k < w1.heap.size) (hs : SetAt w2 w0.heap.size p sv' (putL m l x)) (hk : OKept w1 w2 w0.heap.size p sv sv') : IRel w0 w2 p mv' sv' (putL m l x) := h.step hb hm hn hlt hs hk
theorem IRel.drop {w0 w w1 w2 : World} {p : Nat} {mv mv' sv sv' : Value} {l l' : List HI} (h : IRel w0 w p mv sv l) (hb : Below w.heap.size w w1) (hm : w1.ownsRow w.heap.size 125 3 mv' l'.length (hCells l'))
    (hs : SetAt w2 w0.heap.size p sv' l') (hk : OKept w1 w2 w0.heap.size p sv sv') : IRel w0 w2 p mv' sv' l' :=
  h.step hb (SR.owns hm) (.inr fun b e => (hm.lt b e).1) (fun b e => .inr (hm.lt b e).2) hs hk
theorem u64_and (v : Int) (m : Int) : (Lit.int .u64 (bits .and .u64 v m)).wf = true := wf_bits _ _ _ _
/-- an item's cells where it lies -/
theorem item_cells {w : World} {X : Nat} {V : Int} {D : ByteArray} (h : w.heap[X]? = some (.cells #[.int .u64 V, .string D] 71)) :
    w.cell? ⟨X, 0, none⟩ = some (.int .u64 V) ∧ w.cell? ⟨X, 1, none⟩ = some (.string D) ∧ w.frozen? ⟨X, 0, none⟩ = false ∧ w.frozen? ⟨X, 1, none⟩ = false :=
  ⟨by simp [World.cell?, h], by simp [World.cell?, h], by simp [World.frozen?, h], by simp [World.frozen?, h]⟩
end Go.Proofs.Ytadejhlljdcocaa
/-
  items: Of, Merge; tarnref09: Of, Merge: of each block the newest item, of one list or two.
-/

namespace Go.Proofs.Ytadejhlljdcocaa
open Go.RowKit
set_option linter.unusedVariables false
set_option linter.unusedSimpArgs false

/-- may an item be? -/
theorem may_two (v : Int) (D : ByteArray) : ∃ b, MayT b v D ∧ (b = false → D ≠ ⟨#[]⟩) ∧ (b = true → D.size ≤ 32) ∧ (b = true → D = ⟨#[]⟩ ∨ D.size = 32) := by
  by_cases h : D = ⟨#[]⟩
  · obtain ⟨b, h1, h2, h3⟩ := may_cases v D
    exact ⟨b, h1, h2, h3, fun _ => .inl h⟩
  · by_cases h2 : D.size = 32
    · obtain ⟨b, h1, h4, h3⟩ := may_cases v D
      exact ⟨b, h1, h4, h3, fun _ => .inr h2⟩
    · exact ⟨false, ⟨fun w => imay_bad v D w h h2, fun w => rmay_bad v D w h h2⟩, fun _ => h, by simp, by simp⟩
noncomputable def mB (v : Int) (d : ByteArray) : Bool := Classical.choose (may_two v d)
theorem mB_t (v : Int) (d : ByteArray) : MayT (mB v d) v d := (Classical.choose_spec (may_two v d)).1
theorem mB_none (v : Int) : mB v ⟨#[]⟩ = true := by
  cases h : mB v ⟨#[]⟩
  · exact absurd rfl ((Classical.choose_spec (may_two v ⟨#[]⟩)).2.1 h)
  · rfl
theorem mB_size {x : Int} {d : ByteArray} (h : mB x d = true) : d.size ≤ 32 := (Classical.choose_spec (may_two x d)).2.2.1 h
theorem mB_two {x : Int} {d : ByteArray} (h : mB x d = true) : d = ⟨#[]⟩ ∨ d.size = 32 := (Classical.choose_spec (may_two x d)).2.2.2 h
/-- a list with an item laid, and with many -/
noncomputable def putB (l : List HI) (x : HI) : List HI := putL (mB x.v x.d) l x
noncomputable def putAll (l : List HI) (xs : List HI) : List HI := xs.foldl putB l
theorem putAll_next {l xs : List HI} {j : Nat} {x : HI} (h : xs[j]? = some x) : putAll l (xs.take (j + 1)) = putB (putAll l (xs.take j)) x := by
  rw [take_next h, putAll, List.foldl_append]; rfl
theorem putAll_app (l a b : List HI) : putAll l (a ++ b) = putAll (putAll l a) b := by rw [putAll, List.foldl_append]; rfl
/-- an item whose numbers and bytes are such as may be handed over -/
structure Ok (x : HI) : Prop where
  b : (Lit.int .i64 x.b).wf = true
  v : (Lit.int .u64 x.v).wf = true
  d : x.d.size ≤ 40
theorem Good.ok {x : HI} (h : Good x) : Ok x := ⟨(good_wf h).1, h.2.2.1, h.2.2.2⟩
theorem Srt.ok {l : List HI} (h : Srt l) : ∀ x ∈ l, Ok x := fun x hx => (h.all x hx).ok
theorem srt_put {l : List HI} {x : HI} (h : Srt l) (ho : Ok x) : Srt (putB l x) := by
  unfold putB putL
  split
  · rename_i hm
    have hi : inB x.b = true := by rw [Bool.and_eq_true] at hm; exact hm.2
    simp only [inB, Bool.and_eq_true, decide_eq_true_eq] at hi
    exact h.lay ⟨hi.1, hi.2, ho.v, ho.d⟩
  · exact h
theorem srt_putAll {xs : List HI} : ∀ {l : List HI}, Srt l → (∀ x ∈ xs, Ok x) → Srt (putAll l xs) := by
  induction xs with
  | nil => intro l h _; exact h
  | cons x t ih =>
    intro l h ho
    exact ih (srt_put h (ho x (by simp))) (fun y hy => ho y (by simp [hy]))
/-- a set at p with many put into it: what is so far -/
structure SRel (w0 w : World) (p : Nat) (sv0 sv : Value) (l : List HI) : Prop where
  set : SetAt w w0.heap.size p sv l
  kept : OKept w0 w w0.heap.size p sv0 sv
/-- the cells of an element, in any later world -/
theorem held_cells {w w' : World} {N : Nat} {v : Value} {a : Option Addr} {len cap : Nat} {l : List HI} (h : SR w (.slice a len cap) 3 len (hCells l)) (j : Nat) (x : HI) (hx : l[j]? = some x) (hb : Below w.heap.size w w') :
    ∃ b off, a = some ⟨b, off, none⟩ ∧ w'.cell? ⟨b, off + j * 3, none⟩ = some (.int .i64 x.b) ∧ w'.cell? ⟨b, off + j * 3 + 1, none⟩ = some (.int .u64 x.v) ∧ w'.cell? ⟨b, off + j * 3 + 2, none⟩ = some (.string x.d) := by
  obtain ⟨b, off, e, _, h0, h1, h2⟩ := sr_held (h.below hb) j x hx
  exact ⟨b, off, e, h0, h1, h2⟩
theorem held_at {w : World} {X : Nat} {x : HI} (h : w.heap[X]? = some (.cells #[.int .i64 x.b, .int .u64 x.v, .string x.d] 125)) :
    w.cell? ⟨X, 0, none⟩ = some (.int .i64 x.b) ∧ w.cell? ⟨X, 1, none⟩ = some (.int .u64 x.v) ∧ w.cell? ⟨X, 2, none⟩ = some (.string x.d) :=
  ⟨by simp [World.cell?, h], by simp [World.cell?, h], by simp [World.cell?, h]⟩
set_option maxHeartbeats 1600000 in
set_option maxRecDepth 100000 in
/-- items.Of -/
theorem iof (l : List HI) (hok : ∀ x ∈ l, Ok x) (w : World) (v : Value) (hv : SR w v 3 l.length (hCells l)) :
    Calls Try.prog 103 #[v] w fun e w' => e = .returned (.pointer (some ⟨w.heap.size, 0, none⟩)) ∧ ∃ sv, SetAt w' w.heap.size w.heap.size sv (putAll [] l) ∧ Below w.heap.size w w' := by
  obtain ⟨a, cap, rfl, hlc, hcm⟩ := hv.form
  unfold maxLen at hcm
  have HV := Lib.hid hv
  have HOK := Lib.hid hok
  have S0 := Lib.hid (set_new w)
  have hitem : ∀ (x : Int) (D : ByteArray), itemA x D = #[.int .u64 x, .string D] := fun _ _ => rfl
  clear hv hok
  go_enter Try.func103, Try.ntmps103
  go_wp2_with fail
  refine Calls.mono (snew _) ?_
  rintro e w1 ⟨rfl, rfl⟩
  go_wp2_with fail
  go_loopw [9] (fun i wr => ∃ (j : Nat) (sv : Value), j ≤ l.length ∧ i = .int .i64 j ∧ Hid (SetAt wr w.heap.size w.heap.size sv (putAll [] (l.take j)) ∧ Below w.heap.size w wr)) (fun i _ => l.length - (intOf i).toNat)
  case atStart => exact ⟨0, _, Nat.zero_le _, rfl, Lib.hid ⟨S0.out, (Below.refl _ _).alloc (Nat.le_refl _) _⟩⟩
  case round =>
    obtain ⟨j, sv, hj, rfl, HR⟩ := hrel
    by_cases hlt : j < l.length
    · obtain ⟨x, hx⟩ : ∃ x, l[j]? = some x := ⟨_, List.getElem?_eq_getElem hlt⟩
      obtain ⟨b, off, rfl, -, c0, c1, c2⟩ := sr_held (HV.out.below HR.out.2) j x hx
      have hb1 := (Below.refl wr.heap.size wr).alloc (Nat.le_refl _) (.cells #[.int .i64 x.b, .int .u64 x.v, .string x.d] 125)
      have hy := heap_alloc_self wr (.cells #[.int .i64 x.b, .int .u64 x.v, .string x.d] 125)
      have HX := Lib.hid hx
      have ho := HOK.out x (List.mem_of_getElem? hx)
      clear hx
      go_upto_region 5 with fail
      generalize wr.alloc (.cells #[.int .i64 x.b, .int .u64 x.v, .string x.d] 125) = w2 at *
      obtain ⟨d0, d1, d2⟩ := held_at hy
      have cs := sput _ _ _ _ _ (HR.out.1.below hb1) x (mB x.v x.d) (mB_t _ _) ho.v ho.d
      simp only [hitem] at cs
      have hbb := HR.out.2.trans (hb1.mono HR.out.2.size)
      have HB := Lib.hid hbb
      clear c0 c1 c2 hb1 hy hbb ho
      go_wp2_with fail
      refine Calls.mono cs ?_
      rintro e w3 ⟨rfl, sv', hs3, hk3⟩
      have HS3 := Lib.hid hs3
      have HK3 := Lib.hid hk3
      clear hs3 hk3 cs d0 d1 d2
      go_wp2_with fail
      go_roundw
      case rel => exact ⟨j + 1, sv', by omega, by go_num, Lib.hid ⟨by rw [putAll_next HX.out]; exact HS3.out, HB.out.trans HK3.out.below⟩⟩
      case measure => simp [intOf]; omega
    · obtain rfl : j = l.length := by omega
      have HQ := HR.out
      rw [List.take_length] at HQ
      have HQ' := Lib.hid HQ
      clear HQ
      go_wp2_with fail
      go_ret
      exact ⟨rfl, sv, HQ'.out.1, HQ'.out.2⟩
set_option maxHeartbeats 1600000 in
set_option maxRecDepth 100000 in
/-- items.Merge -/
theorem imerge (l m : List HI) (hol : ∀ x ∈ l, Ok x) (hom : ∀ x ∈ m, Ok x) (w : World) (u v : Value) (hu : SR w u 3 l.length (hCells l)) (hv : SR w v 3 m.length (hCells m)) :
    Calls Try.prog 106 #[u, v] w fun e w' => ∃ v', e = .returned v' ∧ w'.ownsRow w.heap.size 125 3 v' (putAll [] (l ++ m)).length (hCells (putAll [] (l ++ m))) ∧ Below w.heap.size w w' := by
  have ci := iof l hol w u hu
  obtain ⟨a', cap', rfl, hlc', hcm'⟩ := hu.form
  obtain ⟨a, cap, rfl, hlc, hcm⟩ := hv.form
  unfold maxLen at hcm
  have HV := Lib.hid hv
  have HOK := Lib.hid hom
  have hitem : ∀ (x : Int) (D : ByteArray), itemA x D = #[.int .u64 x, .string D] := fun _ _ => rfl
  clear hv hol hom hu
  go_enter Try.func106, Try.ntmps106
  go_wp2_with fail
  refine Calls.mono ci ?_
  rintro e w1 ⟨rfl, sv0, hs0, hb0⟩
  have S0 := Lib.hid hs0
  have B0 := Lib.hid hb0
  clear hs0 hb0 ci
  go_wp2_with fail
  go_loopw [12] (fun i wr => ∃ (j : Nat) (sv : Value), j ≤ m.length ∧ i = .int .i64 j ∧ Hid (SetAt wr w.heap.size w.heap.size sv (putAll (putAll [] l) (m.take j)) ∧ Below w.heap.size w wr)) (fun i _ => m.length - (intOf i).toNat)
  case atStart => exact ⟨0, _, Nat.zero_le _, rfl, Lib.hid ⟨S0.out, B0.out⟩⟩
  case round =>
    obtain ⟨j, sv, hj, rfl, HR⟩ := hrel
    by_cases hlt : j < m.length
    · obtain ⟨x, hx⟩ : ∃ x, m[j]? = some x := ⟨_, List.getElem?_eq_getElem hlt⟩
      obtain ⟨b, off, rfl, -, c0, c1, c2⟩ := sr_held (HV.out.below HR.out.2) j x hx
      have hb1 := (Below.refl wr.heap.size wr).alloc (Nat.le_refl _) (.cells #[.int .i64 x.b, .int .u64 x.v, .string x.d] 125)
      have hy := heap_alloc_self wr (.cells #[.int .i64 x.b, .int .u64 x.v, .string x.d] 125)
      have HX := Lib.hid hx
      have ho := HOK.out x (List.mem_of_getElem? hx)
      clear hx
      go_upto_region 5 with fail
      generalize wr.alloc (.cells #[.int .i64 x.b, .int .u64 x.v, .string x.d] 125) = w2 at *
      obtain ⟨d0, d1, d2⟩ := held_at hy
      have cs := sput _ _ _ _ _ (HR.out.1.below hb1) x (mB x.v x.d) (mB_t _ _) ho.v ho.d
      simp only [hitem] at cs
      have hbb := HR.out.2.trans (hb1.mono HR.out.2.size)
      have HB := Lib.hid hbb
      clear c0 c1 c2 hb1 hy hbb ho
      go_wp2_with fail
      refine Calls.mono cs ?_
      rintro e w3 ⟨rfl, sv', hs3, hk3⟩
      have HS3 := Lib.hid hs3
      have HK3 := Lib.hid hk3
      clear hs3 hk3 cs d0 d1 d2
      go_wp2_with fail
      go_roundw
      case rel => exact ⟨j + 1, sv', by omega, by go_num, Lib.hid ⟨by rw [putAll_next HX.out]; exact HS3.out, HB.out.trans HK3.out.below⟩⟩
      case measure => simp [intOf]; omega
    · obtain rfl : j = m.length := by omega
      have HQ := HR.out
      rw [List.take_length, ← putAll_app] at HQ
      have HQ' := Lib.hid HQ
      have ca := sall _ _ _ _ _ HQ.1
      clear HQ
      go_wp2_with fail
      refine Calls.mono ca ?_
      rintro e w4 ⟨v', rfl, hr, hb⟩
      have HF := Lib.hid (HQ'.out.2.trans (hb.mono HQ'.out.2.size))
      have HW := Lib.hid (own_mono hr HQ'.out.2.size)
      clear hr hb ca
      go_wp2_with fail
      go_ret
      exact ⟨_, rfl, HW.out, HF.out⟩
set_option maxHeartbeats 1600000 in
set_option maxRecDepth 100000 in
/-- tarnref09.Of -/
theorem rof (l : List HI) (hok : ∀ x ∈ l, Ok x) (w : World) (v : Value) (hv : SR w v 3 l.length (hCells l)) :
    Calls Try.prog 63 #[v] w fun e w' => ∃ v', e = .returned v' ∧ SR w' v' 3 (putAll [] l).length (hCells (putAll [] l)) ∧ (∀ b, v'.ownBlock = some b → w.heap.size ≤ b ∧ b < w'.heap.size) ∧ Below w.heap.size w w' := by
  obtain ⟨a, cap, rfl, hlc, hcm⟩ := hv.form
  unfold maxLen at hcm
  have HV := Lib.hid hv
  have HOK := Lib.hid hok
  have hitem : ∀ (x : Int) (D : ByteArray), itemA x D = #[.int .u64 x, .string D] := fun _ _ => rfl
  clear hv hok
  go_enter Try.func63, Try.ntmps63
  go_wp2_with fail
  go_loopw [3, 4] (fun mv i wr => ∃ (j : Nat), j ≤ l.length ∧ i = .int .i64 j ∧ Hid (SR wr mv 3 (putAll [] (l.take j)).length (hCells (putAll [] (l.take j))) ∧ (∀ b, mv.ownBlock = some b → w.heap.size ≤ b ∧ b < wr.heap.size) ∧ Below w.heap.size w wr)) (fun _ i _ => l.length - (intOf i).toNat)
  case atStart => exact ⟨0, Nat.zero_le _, rfl, Lib.hid ⟨⟨_, 0, rfl, Nat.le_refl _, Nat.zero_le _, rfl, .inl rfl⟩, fun b e => by cases e; simp, (Below.refl _ _).alloc (Nat.le_refl _) _⟩⟩
  case round =>
    obtain ⟨j, hj, rfl, HR⟩ := hrel
    by_cases hlt : j < l.length
    · obtain ⟨x, hx⟩ : ∃ x, l[j]? = some x := ⟨_, List.getElem?_eq_getElem hlt⟩
      obtain ⟨b, off, rfl, -, c0, c1, c2⟩ := sr_held (HV.out.below HR.out.2.2) j x hx
      have HX := Lib.hid hx
      have ho := HOK.out x (List.mem_of_getElem? hx)
      have hst : Srt (putAll [] (l.take j)) := srt_putAll Srt.nil (fun y hy => HOK.out y (List.mem_of_mem_take hy))
      have cs := rlay _ x (mB x.v x.d) wr.drew _ hst HR.out.1 ho.v ho.d (mB_t _ _)
      simp only [hitem] at cs
      have hlj : (j : Int) < l.length := by omega
      have h0j : (0 : Int) ≤ j := by omega
      clear hx ho hst
      go_upto_region 5 with fail
      go_region_with (go_at_call 114; refine Calls.mono cs ?_; rintro e w3 ⟨v', rfl, hm3, hn3, hlt3, hb3⟩)
      all_goals
        have HM3 := Lib.hid hm3
        have HN3 := Lib.hid hn3
        have HB3 := Lib.hid (below_of_drew hb3)
        have HL3 := Lib.hid hlt3
        clear hm3 hn3 hlt3 hb3 cs c0 c1 c2
        go_wp2_with fail
        go_roundw
        case rel => exact ⟨j + 1, by omega, by go_num, Lib.hid ⟨by rw [putAll_next HX.out]; exact HM3.out, fun q e => by
            refine ⟨?_, ?_⟩
            · rcases HN3.out with h | h
              · exact (HR.out.2.1 q (h.symm.trans e)).1
              · exact Nat.le_trans HR.out.2.2.size (h q e)
            · rcases HL3.out q e with h | h
              · exact Nat.lt_of_lt_of_le (HR.out.2.1 q h).2 HB3.out.size
              · exact h, HR.out.2.2.trans (HB3.out.mono HR.out.2.2.size)⟩⟩
        case measure => simp [intOf]; omega
    · obtain rfl : j = l.length := by omega
      have HQ := HR.out
      rw [List.take_length] at HQ
      have HQ' := Lib.hid HQ
      clear HQ
      go_wp2_with fail
      go_ret
      exact ⟨_, rfl, HQ'.out⟩
end Go.Proofs.Ytadejhlljdcocaa
