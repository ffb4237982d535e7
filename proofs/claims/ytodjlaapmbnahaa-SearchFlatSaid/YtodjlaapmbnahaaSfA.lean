/-
  Uses whose values are written once: an order is there just if the spans fit (pure).
-/
import Derived.Test.YtodjlaapmbnahaaFsF
import Derived.Test.YtodjlaapmbnahaaSchD
namespace Go.Proofs.Ytodjlaapmbnahaa
open Go.RowKit
set_option linter.unusedVariables false
set_option linter.unusedSimpArgs false

/-- what is not done -/
def Rm (l : List US) (d : Nat) (u : US) : Prop := ∃ i : Nat, l[i]? = some u ∧ d.testBit i = false
structure HU (l : List US) : Prop where
  once : ∀ (i j : Nat) u v, l[i]? = some u → l[j]? = some v → u.w = true → v.w = true → u.v = v.v → i = j
  lt : ∀ u ∈ l, 0 ≤ u.f ∧ u.f < u.t ∧ u.t ≤ 1073741824
  told : ∀ u ∈ l, u.w = false → u.t < 1073741824
  ne : ∀ u ∈ l, ∀ v ∈ l, u.t ≠ v.f
theorem Rm.mem {l : List US} {d : Nat} {u : US} (h : Rm l d u) : u ∈ l := by
  obtain ⟨i, h1, -⟩ := h
  exact List.mem_of_getElem? h1
structure Q4 (l : List US) (d : Nat) (v : ByteArray) : Prop where
  w0 : ∀ u, Rm l d u → u.w = true → u.v ≠ v
  q1 : ∀ r, Rm l d r → r.w = false → r.v = v ∨ ∃ w, Rm l d w ∧ w.w = true ∧ w.v = r.v ∧ w.f < r.t
  q2 : ∀ x y x' y', Rm l d x → Rm l d y → Rm l d x' → Rm l d y' → x.v = y'.v → y.v = x'.v → x.v ≠ x'.v → x.t < y.f → x'.t < y'.f → False
  q3 : ∀ x' y', Rm l d x' → Rm l d y' → y'.v = v → x'.v ≠ v → x'.t < y'.f → False
theorem rm_or {l : List US} {d i : Nat} {x : US} (h : Rm l (d ||| 2 ^ i) x) : Rm l d x := by
  obtain ⟨j, h1, h2⟩ := h
  rw [tb] at h2
  exact ⟨j, h1, by cases hd : d.testBit j <;> simp [hd] at h2 ⊢⟩
theorem rm_split {l : List US} {d i : Nat} {u x : US} (hu : l[i]? = some u) (h : Rm l d x) : x = u ∨ Rm l (d ||| 2 ^ i) x := by
  obtain ⟨j, h1, h2⟩ := h
  by_cases hij : i = j
  · subst hij
    rw [hu] at h1
    exact .inl (Option.some.inj h1).symm
  · exact .inr ⟨j, h1, by rw [tb, h2, decide_eq_false hij]; rfl⟩
theorem rm_wr {l : List US} (hl : HU l) {d i : Nat} {u x : US} (hu : l[i]? = some u) (hw : u.w = true) (h : Rm l (d ||| 2 ^ i) x) (hx : x.w = true) : x.v ≠ u.v := by
  obtain ⟨j, h1, h2⟩ := h
  intro e
  have := hl.once i j u x hu h1 hw hx e.symm
  subst this
  rw [tb] at h2
  simp at h2
/-- an order shows it -/
theorem ord_q {l : List US} (hl : HU l) {d : Nat} {v : ByteArray} (h : Ord l d v) : (∀ u, Rm l d u → u.w = true → u.v ≠ v) → Q4 l d v := by
  induction h with
  | @over d v h0 =>
    intro w0
    have hno : ∀ x y, Rm l d x → Rm l d y → x.t < y.f → False := fun x y hx hy h => by
      obtain ⟨i, h1, h2⟩ := hx
      have := h0 i x h1 h2
      have := hl.lt y hy.mem
      omega
    refine ⟨w0, fun r hr hw => ?_, fun x y x' y' hx hy _ _ _ _ _ h _ => hno x y hx hy h, fun x y hx hy _ _ h => hno x y hx hy h⟩
    obtain ⟨i, h1, h2⟩ := hr
    exact absurd (hl.told r (List.mem_of_getElem? h1) hw) (h0 i r h1 h2)
  | @step d v i u hu hb hf hv hn ih =>
    intro w0
    have hfst : ∀ x, Rm l d x → ¬ x.t < u.f := fun x hx => by
      obtain ⟨j, h1, h2⟩ := hx
      exact hf j x h1 h2
    have hum : u ∈ l := List.mem_of_getElem? hu
    cases hw : u.w
    · have hvv := hv hw
      have hq := ih fun x hx hxw => by rw [hvv]; exact w0 x (rm_or hx) hxw
      rw [hvv] at hq
      have q3 : ∀ x' y', Rm l d x' → Rm l d y' → y'.v = v → x'.v ≠ v → x'.t < y'.f → False := fun x' y' hx hy e1 e2 h => by
        rcases rm_split hu hy with rfl | hy2
        · exact hfst x' hx h
        · rcases rm_split hu hx with rfl | hx2
          · exact e2 hvv
          · exact hq.q3 x' y' hx2 hy2 e1 e2 h
      refine ⟨w0, fun r hr hrw => ?_, fun x y x' y' hx hy hx' hy' e1 e2 e3 h1 h2 => ?_, q3⟩
      · rcases rm_split hu hr with rfl | hr2
        · exact .inl hvv
        · rcases hq.q1 r hr2 hrw with q | ⟨w, g1, g2⟩
          · exact .inl q
          · exact .inr ⟨w, rm_or g1, g2⟩
      · by_cases a1 : x.v = v
        · exact q3 x' y' hx' hy' (e1.symm.trans a1) (fun e => e3 (a1.trans e.symm)) h2
        · by_cases a2 : x'.v = v
          · exact q3 x y hx hy (e2.trans a2) a1 h1
          · have nu : ∀ z, Rm l d z → z.v ≠ v → Rm l (d ||| 2 ^ i) z := fun z hz hzv => (rm_split hu hz).resolve_left fun e => hzv (by rw [e]; exact hvv)
            exact hq.q2 x y x' y' (nu x hx a1) (nu y hy (by rw [e2]; exact a2)) (nu x' hx' a2) (nu y' hy' (by rw [← e1]; exact a1)) e1 e2 e3 h1 h2
    · have hq := ih fun x hx hxw => rm_wr hl hu hw hx hxw
      have hne : u.v ≠ v := w0 u ⟨i, hu, hb⟩ hw
      have nu : ∀ z, Rm l d z → z.v ≠ u.v → Rm l (d ||| 2 ^ i) z := fun z hz hzv => (rm_split hu hz).resolve_left fun e => hzv (by rw [e])
      have q3 : ∀ x' y', Rm l d x' → Rm l d y' → y'.v = v → x'.v ≠ v → x'.t < y'.f → False := fun x' y' hx hy e1 e2 h => by
        have hy2 := nu y' hy (by rw [e1]; exact Ne.symm hne)
        cases hyw : y'.w
        · rcases hq.q1 y' hy2 hyw with q | ⟨w, g1, g2, g3, g4⟩
          · exact hne (q.symm.trans e1)
          · exact w0 w (rm_or g1) g2 (g3.trans e1)
        · exact w0 y' hy hyw e1
      have q3u : ∀ x' y', Rm l d x' → Rm l d y' → y'.v = u.v → x'.v ≠ u.v → x'.t < y'.f → False := fun x' y' hx hy e1 e2 h => by
        rcases rm_split hu hy with rfl | hy2
        · exact hfst x' hx h
        · exact hq.q3 x' y' (nu x' hx e2) hy2 e1 e2 h
      refine ⟨w0, fun r hr hrw => ?_, fun x y x' y' hx hy hx' hy' e1 e2 e3 h1 h2 => ?_, q3⟩
      · rcases rm_split hu hr with rfl | hr2
        · rw [hw] at hrw; cases hrw
        · rcases hq.q1 r hr2 hrw with q | ⟨w, g1, g2⟩
          · refine .inr ⟨u, ⟨i, hu, hb⟩, hw, q.symm, ?_⟩
            have a := hfst r hr
            have b := hl.ne r hr.mem u hum
            omega
          · exact .inr ⟨w, rm_or g1, g2⟩
      · by_cases a1 : x.v = u.v
        · exact q3u x' y' hx' hy' (e1.symm.trans a1) (fun e => e3 (a1.trans e.symm)) h2
        · by_cases a2 : x'.v = u.v
          · exact q3u x y hx hy (e2.trans a2) a1 h1
          · exact hq.q2 x y x' y' (nu x hx a1) (nu y hy (by rw [e2]; exact a2)) (nu x' hx' a2) (nu y' hy' (by rw [← e1]; exact a1)) e1 e2 e3 h1 h2
theorem least {P : Nat → Prop} {f : Nat → Int} : ∀ n : Nat, (∃ i, i < n ∧ P i) → ∃ i, i < n ∧ P i ∧ ∀ j, j < n → P j → f i ≤ f j
  | 0, h => by obtain ⟨i, h, -⟩ := h; omega
  | n + 1, h => by
    by_cases h1 : ∃ i, i < n ∧ P i
    · obtain ⟨i, h2, h3, h4⟩ := least (P := P) (f := f) n h1
      by_cases h5 : P n ∧ f n < f i
      · have h6 := h5.2
        refine ⟨n, by omega, h5.1, fun j hj hp => ?_⟩
        rcases Nat.lt_or_ge j n with q | q
        · have := h4 j q hp; omega
        · obtain rfl : j = n := by omega
          exact Int.le_refl _
      · refine ⟨i, by omega, h3, fun j hj hp => ?_⟩
        rcases Nat.lt_or_ge j n with q | q
        · exact h4 j q hp
        · obtain rfl : j = n := by omega
          have : ¬ f j < f i := fun e => h5 ⟨hp, e⟩
          omega
    · obtain ⟨i, h2, h3⟩ := h
      refine ⟨i, h2, h3, fun j hj hp => ?_⟩
      have hj2 : j = n := by
        rcases Nat.lt_or_ge j n with q | q
        · exact absurd ⟨j, q, hp⟩ h1
        · omega
      have hi2 : i = n := by
        rcases Nat.lt_or_ge i n with q | q
        · exact absurd ⟨i, q, h3⟩ h1
        · omega
      rw [hj2, hi2]
      exact Int.le_refl _
theorem rm_least {l : List US} {d : Nat} (P : US → Prop) (f : US → Int) (h : ∃ u, Rm l d u ∧ P u) : ∃ i u, l[i]? = some u ∧ d.testBit i = false ∧ P u ∧ ∀ x, Rm l d x → P x → f u ≤ f x := by
  obtain ⟨u0, ⟨i0, h1, h2⟩, h3⟩ := h
  have hi0 := (List.getElem?_eq_some_iff.1 h1).1
  have hd : ∀ i : Nat, i < l.length → l[i]? = some (l.getD i u0) := fun i hi => by rw [List.getD_eq_getElem?_getD, List.getElem?_eq_getElem hi]; rfl
  obtain ⟨i, g1, ⟨g2, g3⟩, g4⟩ := least (P := fun i => d.testBit i = false ∧ P (l.getD i u0)) (f := fun i => f (l.getD i u0)) l.length ⟨i0, hi0, h2, by rw [List.getD_eq_getElem?_getD, h1]; exact h3⟩
  refine ⟨i, l.getD i u0, hd i g1, g2, g3, fun x hx hp => ?_⟩
  obtain ⟨j, k1, k2⟩ := hx
  have hj := (List.getElem?_eq_some_iff.1 k1).1
  have e : l.getD j u0 = x := by rw [List.getD_eq_getElem?_getD, k1]; rfl
  have := g4 j hj ⟨k2, by rw [e]; exact hp⟩
  rw [e] at this
  exact this
/-- what shows it makes an order -/
theorem q_ord {l : List US} (hl : HU l) {n : Nat} (hn : l.length = n) : ∀ (k d : Nat) (v : ByteArray), und n d ≤ k → Q4 l d v → Ord l d v := by
  intro k
  induction k with
  | zero =>
    intro d v hk hq
    refine .over fun i u hu hb => ?_
    have := und_less (n := n) (by rw [← hn]; exact (List.getElem?_eq_some_iff.1 hu).1) hb
    omega
  | succ k ih =>
    intro d v hk hq
    by_cases h0 : Over l d
    · exact .over h0
    have hless : ∀ i u, l[i]? = some u → d.testBit i = false → und n (d ||| 2 ^ i) ≤ k := fun i u hu hb => by
      have := und_less (n := n) (by rw [← hn]; exact (List.getElem?_eq_some_iff.1 hu).1) hb
      omega
    by_cases hr : ∃ u, Rm l d u ∧ (u.w = false ∧ u.v = v)
    · obtain ⟨i, u, hu, hb, ⟨hw, hv⟩, hmin⟩ := rm_least (fun u => u.w = false ∧ u.v = v) US.f hr
      refine .step hu hb (fun j x hx hbj hxt => ?_) (fun _ => hv) (ih _ _ (hless i u hu hb) ?_)
      · have hxr : Rm l d x := ⟨j, hx, hbj⟩
        by_cases hxv : x.v = v
        · have hxw : x.w = false := by
            cases h : x.w
            · rfl
            · exact absurd hxv (hq.w0 x hxr h)
          have a := hmin x hxr ⟨hxw, hxv⟩
          have b := hl.lt x hxr.mem
          omega
        · exact hq.q3 x u hxr ⟨i, hu, hb⟩ hv hxv hxt
      · rw [hv]
        refine ⟨fun x hx => hq.w0 x (rm_or hx), fun r hr hrw => ?_, fun x y x' y' h1 h2 h3 h4 => hq.q2 x y x' y' (rm_or h1) (rm_or h2) (rm_or h3) (rm_or h4), fun x y h1 h2 => hq.q3 x y (rm_or h1) (rm_or h2)⟩
        rcases hq.q1 r (rm_or hr) hrw with q | ⟨w, g1, g2, g3, g4⟩
        · exact .inl q
        · refine .inr ⟨w, (rm_split hu g1).resolve_left fun e => ?_, g2, g3, g4⟩
          rw [e, hw] at g2; cases g2
    · have hnv : ∀ x, Rm l d x → x.v ≠ v := fun x hx e => by
        cases h : x.w
        · exact hr ⟨x, hx, h, e⟩
        · exact hq.w0 x hx h e
      -- a writing of each value that is left
      have hwr : ∀ x, Rm l d x → ∃ w, Rm l d w ∧ w.w = true ∧ w.v = x.v ∧ w.f < x.t := fun x hx => by
        cases h : x.w
        · rcases hq.q1 x hx h with q | q
          · exact absurd q (hnv x hx)
          · exact q
        · exact ⟨x, hx, h, rfl, (hl.lt x hx.mem).2.1⟩
      have go : ∀ i w, l[i]? = some w → d.testBit i = false → w.w = true → (∀ z, Rm l d z → ¬ z.t < w.f) → (∀ x' y', Rm l d x' → Rm l d y' → y'.v = w.v → x'.v ≠ w.v → x'.t < y'.f → False) → Ord l d v := by
        intro i w hw hb hww hfst hq3
        refine .step hw hb (fun j z hz hbj => hfst z ⟨j, hz, hbj⟩) (fun e => by rw [hww] at e; cases e) (ih _ _ (hless i w hw hb) ?_)
        refine ⟨fun x hx hxw => rm_wr hl hw hww hx hxw, fun r hr hrw => ?_, fun x y x' y' h1 h2 h3 h4 => hq.q2 x y x' y' (rm_or h1) (rm_or h2) (rm_or h3) (rm_or h4), fun x y h1 h2 => hq3 x y (rm_or h1) (rm_or h2)⟩
        rcases hq.q1 r (rm_or hr) hrw with q | ⟨w2, g1, g2, g3, g4⟩
        · exact absurd q (hnv r (rm_or hr))
        · rcases rm_split hw g1 with e | g1'
          · rw [e] at g3
            exact .inl g3.symm
          · exact .inr ⟨w2, g1', g2, g3, g4⟩
      have hex : ∃ u, Rm l d u ∧ u.t < 1073741824 := by
        refine Classical.byContradiction fun hno => h0 fun i u hu hb ht => hno ⟨u, ⟨i, hu, hb⟩, ht⟩
      obtain ⟨i, x, hx, hb, -, hmin0⟩ := rm_least (fun u => u.t < 1073741824) US.t hex
      have hmin : ∀ z, Rm l d z → x.t ≤ z.t := fun z hz => by
        have a := hl.lt z hz.mem
        have b := hl.lt x (List.mem_of_getElem? hx)
        by_cases ht : z.t < 1073741824
        · exact hmin0 z hz ht
        · omega
      have hxr : Rm l d x := ⟨i, hx, hb⟩
      by_cases hpre : ∃ x' y', Rm l d x' ∧ Rm l d y' ∧ y'.v = x.v ∧ x'.v ≠ x.v ∧ x'.t < y'.f
      · obtain ⟨x', y', hx', hy', e1, e2, hlt⟩ := hpre
        obtain ⟨w, ⟨j, hw, hbj⟩, hww, hwv, -⟩ := hwr x' hx'
        have hne : ∀ t, Rm l d t → t.v = x'.v → ¬ x.t < t.f := fun t ht htv h => hq.q2 x t x' y' hxr ht hx' hy' e1.symm htv (Ne.symm e2) h hlt
        refine go j w hw hbj hww (fun z hz h => ?_) (fun z t hz ht g1 g2 h => ?_)
        · have a := hmin z hz
          exact hne w ⟨j, hw, hbj⟩ hwv (by omega)
        · have a := hmin z hz
          exact hne t ht (g1.trans hwv) (by omega)
      · obtain ⟨w, ⟨j, hw, hbj⟩, hww, hwv, hwf⟩ := hwr x hxr
        refine go j w hw hbj hww (fun z hz h => ?_) (fun z t hz ht g1 g2 h => ?_)
        · have a := hmin z hz
          omega
        · exact hpre ⟨z, t, hz, ht, g1.trans hwv, (by rw [← hwv]; exact g2), h⟩
end Go.Proofs.Ytodjlaapmbnahaa
