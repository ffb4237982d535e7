/-
  Several texts, laid together.
-/
import Derived.Test.YtodjlaapmbnahaaMh2
import Derived.Test.YtodjlaapmbnahaaPstO
/-
  A history's things asked for, done and told, and where values were there (pure). Of no program but for the names.
-/

namespace Go.Proofs.Ytodjlaapmbnahaa
open Go.RowKit
set_option linter.unusedVariables false
set_option linter.unusedSimpArgs false

/-- something that was asked for: where, done?, with what answer, told where -/
structure OpR where
  id : Int
  a : Nat
  W : Int
  A : Int
  L : Int
  D : ByteArray
  S : Bool
  done : Bool
  out : ByteArray
  told : Option Nat
def OpR.ev (x : OpR) : Ev := ⟨false, x.id, 5, x.W, x.A, x.L, x.D, x.S, 0, ⟨#[]⟩⟩
def OpR.parts (x : OpR) : List Pt := evParts x.W x.A x.L x.D 4
/-- what was read of the k-th block -/
def rdV (t : ByteArray) (k : Nat) : ByteArray := t.extract (min (32 * k) t.size) (min (min (32 * k) t.size + 32) t.size)
def toldV : Option Nat → Int
  | none => NV
  | some t => t
structure Hs (E : List Ev) (ops : List OpR) : Prop where
  at_ : ∀ x ∈ ops, E[x.a]? = some x.ev
  asks : ∀ (i : Nat) (e : Ev), E[i]? = some e → e.ans = false → ∃ x ∈ ops, x.a = i
  told : ∀ x ∈ ops, Go.Proofs.Ytodjlaapmbnahaa.told E x.id = x.told
  ans : ∀ x ∈ ops, ∀ t, x.told = some t → ∃ e, E[t]? = some e ∧ e.err = 0 ∧ e.txt = x.out ∧ x.done = true
  idi : ∀ x ∈ ops, ∀ y ∈ ops, x.id = y.id → x = y
theorem parts_b {W A L : Int} {D : ByteArray} {k : Nat} {p : Pt} (h : (evParts W A L D 4)[k]? = some p) : p.b = (((A / 32).toNat + k : Nat) : Int) ∧ p.wr = !(W == 0) ∧ p.d = partD W D k ∧ k < (askSz W L D / 32).toNat := by
  unfold evParts at h
  split at h
  · rw [List.getElem?_map] at h
    obtain ⟨j, hj, rfl⟩ := Option.map_eq_some_iff.1 h
    obtain ⟨hl, e⟩ := List.getElem?_eq_some_iff.1 hj
    simp at e hl
    subst e
    exact ⟨rfl, rfl, rfl, by omega⟩
  · cases h
theorem usesat_op {E : List Ev} {ops : List OpR} (h : Hs E ops) {x : OpR} (hx : x ∈ ops) (b : Int) : usesAt E 4 b x.a = useEv E x.told b x.a x.parts x.parts.length := by
  unfold usesAt
  rw [h.at_ x hx]
  show (if x.ev.ans = true then [] else useEv E (Go.Proofs.Ytodjlaapmbnahaa.told E x.ev.id) b x.a (x.ev.parts 4) (x.ev.parts 4).length) = _
  rw [show x.ev.ans = false from rfl, if_neg (by simp), show x.ev.id = x.id from rfl, h.told x hx]
  rfl
theorem useev_mem {E : List Ev} {o : Option Nat} {b : Int} {i n : Nat} {ps : List Pt} {u : Us} : u ∈ useEv E o b i ps n ↔ ∃ k p, k < n ∧ ps[k]? = some p ∧ u ∈ usePt E o b i k p := by
  unfold useEv
  simp only [List.mem_flatMap, List.mem_range]
  constructor
  · rintro ⟨k, hk, hu⟩
    cases hp : ps[k]? with
    | none => rw [hp] at hu; simp at hu
    | some p => rw [hp] at hu; exact ⟨k, p, hk, hp, hu⟩
  · rintro ⟨k, p, hk, hp, hu⟩
    exact ⟨k, hk, by rw [hp]; exact hu⟩
theorem usept_from {E : List Ev} {o : Option Nat} {b : Int} {i k : Nat} {p : Pt} {u : Us} (h : u ∈ usePt E o b i k p) : u.from_ = i ∧ p.b = b := by
  unfold usePt at h
  split at h
  · rename_i hb
    split at h
    · rw [List.mem_singleton.1 h]; exact ⟨rfl, hb⟩
    · simp at h
  · simp at h
theorem usept_op {E : List Ev} {ops : List OpR} (h : Hs E ops) {x : OpR} (hx : x ∈ ops) {b : Int} {k : Nat} {p : Pt} {u : Us} (hp : p.b = b) : u ∈ usePt E x.told b x.a k p ↔ (p.wr = true ∧ u = ⟨true, p.d, x.a, toldV x.told⟩) ∨ (p.wr = false ∧ ∃ t : Nat, x.told = some t ∧ u = ⟨false, rdV x.out k, x.a, t⟩) := by
  unfold usePt useS
  rw [if_pos hp]
  cases ht : x.told with
  | none =>
    cases hw : p.wr
    · simp
    · simp [toldV, NV]
  | some t =>
    obtain ⟨e, he, he0, het, -⟩ := h.ans x hx t ht
    simp only [he, he0, if_true]
    cases hw : p.wr
    · simp [rdV, het]
    · simp [toldV]
theorem uses_mem {E : List Ev} {ops : List OpR} (h : Hs E ops) {b : Int} {u : Us} : u ∈ usesN E 4 b E.length ↔ ∃ x ∈ ops, ∃ (k : Nat) (p : Pt), x.parts[k]? = some p ∧ p.b = b ∧ u ∈ usePt E x.told b x.a k p := by
  unfold usesN
  simp only [List.mem_flatMap, List.mem_range]
  constructor
  · rintro ⟨i, hi, hu⟩
    have he := List.getElem?_eq_getElem hi
    cases ha : E[i].ans
    · obtain ⟨x, hx, rfl⟩ := h.asks i _ he ha
      rw [usesat_op h hx] at hu
      obtain ⟨k, p, _, hp, hu2⟩ := useev_mem.1 hu
      exact ⟨x, hx, k, p, hp, (usept_from hu2).2, hu2⟩
    · unfold usesAt at hu
      rw [he] at hu
      simp [ha] at hu
  · rintro ⟨x, hx, k, p, hp, hb, hu⟩
    refine ⟨x.a, (List.getElem?_eq_some_iff.1 (h.at_ x hx)).1, ?_⟩
    rw [usesat_op h hx]
    exact useev_mem.2 ⟨k, p, (List.getElem?_eq_some_iff.1 hp).1, hp, hu⟩
theorem useev_one {E : List Ev} {ops : List OpR} {x : OpR} (b : Int) : ∀ n, (useEv E x.told b x.a x.parts n).length ≤ 1 ∧ ((useEv E x.told b x.a x.parts n).length = 1 → ∃ k p, k < n ∧ x.parts[k]? = some p ∧ p.b = b)
  | 0 => by simp [useEv]
  | n + 1 => by
    obtain ⟨h1, h2⟩ := useev_one (E := E) (ops := ops) b n
    cases hp : x.parts[n]? with
    | none =>
      have e : useEv E x.told b x.a x.parts (n + 1) = useEv E x.told b x.a x.parts n := by
        unfold useEv
        rw [List.range_succ, List.flatMap_append]
        simp [hp]
      rw [e]
      exact ⟨h1, fun hh => let ⟨k, p, q1, q2, q3⟩ := h2 hh; ⟨k, p, by omega, q2, q3⟩⟩
    | some p =>
      rw [useev_next hp, List.length_append]
      by_cases hb : p.b = b
      · have h0 : (useEv E x.told b x.a x.parts n).length = 0 := by
          rcases Nat.lt_or_ge 0 (useEv E x.told b x.a x.parts n).length with q | q
          · obtain ⟨k, p2, q1, q2, q3⟩ := h2 (by omega)
            have e1 := (parts_b hp).1
            have e2 := (parts_b q2).1
            omega
          · omega
        have := usept_len E x.told b x.a n p
        exact ⟨by omega, fun _ => ⟨n, p, by omega, hp, hb⟩⟩
      · have e : usePt E x.told b x.a n p = [] := by unfold usePt; rw [if_neg hb]
        rw [e]
        exact ⟨by simpa using h1, fun hh => let ⟨k, p, q1, q2, q3⟩ := h2 (by simpa using hh); ⟨k, p, by omega, q2, q3⟩⟩
theorem uses_rise {E : List Ev} {ops : List OpR} (h : Hs E ops) (b : Int) : ∀ n, (usesN E 4 b n).Pairwise (fun u v => u.from_ < v.from_) ∧ ∀ u ∈ usesN E 4 b n, 0 ≤ u.from_ ∧ u.from_ < n
  | 0 => by simp [usesN]
  | n + 1 => by
    obtain ⟨h1, h2⟩ := uses_rise h b n
    have hat : (usesAt E 4 b n).length ≤ 1 ∧ ∀ u ∈ usesAt E 4 b n, u.from_ = n := by
      cases he : E[n]? with
      | none => unfold usesAt; rw [he]; simp
      | some e =>
        cases ha : e.ans
        · obtain ⟨x, hx, rfl⟩ := h.asks n e he ha
          rw [usesat_op h hx]
          refine ⟨(useev_one (E := E) (ops := ops) b _).1, fun u hu => ?_⟩
          obtain ⟨k, p, _, _, hu2⟩ := useev_mem.1 hu
          exact (usept_from hu2).1
        · unfold usesAt; rw [he]; simp [ha]
    rw [uses_next]
    refine ⟨List.pairwise_append.2 ⟨h1, ?_, fun u hu v hv => ?_⟩, fun u hu => ?_⟩
    · match hl : usesAt E 4 b n, hat.1 with
      | [], _ => simp
      | [u], _ => simp
    · rw [hat.2 v hv]; exact (h2 u hu).2
    · rcases List.mem_append.1 hu with q | q
      · have := h2 u q; omega
      · rw [hat.2 u q]; omega
/-- nothing, or what something that was asked for writes -/
def valW (ops : List OpR) (b : Nat) (v : ByteArray) : Prop := v = zeroL 32 ∨ ∃ x ∈ ops, ∃ (k : Nat) (p : Pt), x.parts[k]? = some p ∧ p.b = (b : Int) ∧ p.wr = true ∧ p.d = v
structure HB (b : Nat) (E : List Ev) (V : List ByteArray) (ops : List OpR) (I : ByteArray → Int × Int) : Prop where
  z : (I (zeroL 32)).1 ≤ -1 ∧ -1 < (I (zeroL 32)).2
  lo : ∀ v, (I v).1 = NV ∨ ((I v).1 ≤ E.length ∧ (I v).2 ≤ NV)
  fresh : ∀ v, ¬ valW ops b v → I v = (NV, NV + 1)
  cur : ∃ v, V[b]? = some v ∧ valW ops b v ∧ (I v).2 = NV ∧ (I v).1 ≤ E.length
  ord : ∀ v1 v2, v1 ≠ v2 → valW ops b v1 → valW ops b v2 → (I v1).2 ≤ (I v2).1 ∨ (I v2).2 ≤ (I v1).1 ∨ ((I v1).1 = NV ∧ (I v2).1 = NV)
  wr : ∀ x ∈ ops, ∀ (k : Nat) (p : Pt), x.parts[k]? = some p → p.b = (b : Int) → p.wr = true → p.d ≠ zeroL 32 ∧ (x.a : Int) < (I p.d).1 ∧ (x.a : Int) < (I p.d).2 ∧ (x.done = false → I p.d = (NV, NV + 1)) ∧ (x.done = true → (I p.d).1 ≤ E.length) ∧ ∀ t : Nat, x.told = some t → (I p.d).1 ≤ t
  rd : ∀ x ∈ ops, x.done = true → ∀ (k : Nat) (p : Pt), x.parts[k]? = some p → p.b = (b : Int) → p.wr = false → valW ops b (rdV x.out k) ∧ (I (rdV x.out k)).1 ≤ E.length ∧ (x.a : Int) < (I (rdV x.out k)).2 ∧ ∀ t : Nat, x.told = some t → (I (rdV x.out k)).1 ≤ t
  dist : ∀ x ∈ ops, ∀ y ∈ ops, ∀ (k : Nat) (p : Pt) (j : Nat) (q : Pt), x.parts[k]? = some p → y.parts[j]? = some q → p.b = (b : Int) → q.b = (b : Int) → p.wr = true → q.wr = true → p.d = q.d → x = y
theorem hb_cert {b : Nat} {E : List Ev} {V : List ByteArray} {ops : List OpR} {I : ByteArray → Int × Int} (hs : Hs E ops) (h : HB b E V ops I) (hE : (E.length : Int) < NV) : Cert (usesN E 4 b E.length) I := by
  have hval : ∀ u ∈ usesN E 4 b E.length, valW ops b u.val := fun u hu => by
    obtain ⟨x, hx, k, p, hp, hb, hu2⟩ := (uses_mem hs).1 hu
    rcases (usept_op hs hx hb).1 hu2 with ⟨hw, rfl⟩ | ⟨hw, t, ht, rfl⟩
    · exact .inr ⟨x, hx, k, p, hp, hb, hw, rfl⟩
    · obtain ⟨e, _, _, _, hd⟩ := hs.ans x hx t ht
      exact (h.rd x hx hd k p hp hb hw).1
  have hlt : ∀ v, (I v).1 ≤ NV := fun v => by
    rcases h.lo v with q | ⟨q, -⟩ <;> omega
  have hrise := uses_rise hs (b : Int) E.length
  refine ⟨h.z, fun u hu => ?_, hlt, fun v1 v2 hne h1 h2 => ?_, ?_, fun u hu hw => ?_, fun u hu hz => ?_⟩
  · have hfr := hrise.2 u hu
    obtain ⟨x, hx, k, p, hp, hb, hu2⟩ := (uses_mem hs).1 hu
    rcases (usept_op hs hx hb).1 hu2 with ⟨hw, rfl⟩ | ⟨hw, t, ht, rfl⟩
    · obtain ⟨a1, a2, a3, a4, a4', a5⟩ := h.wr x hx k p hp hb hw
      refine ⟨?_, a3, hfr.1, by have := hfr.2; omega⟩
      cases ht : x.told with
      | none => exact hlt _
      | some t => exact a5 t ht
    · obtain ⟨e, _, _, _, hd⟩ := hs.ans x hx t ht
      obtain ⟨a1, a2, a3, a4⟩ := h.rd x hx hd k p hp hb hw
      exact ⟨a4 t ht, a3, hfr.1, by have := hfr.2; omega⟩
  · refine h.ord v1 v2 hne ?_ ?_
    · rcases h1 with q | ⟨u, hu, rfl⟩
      · exact .inl q
      · exact hval u hu
    · rcases h2 with q | ⟨u, hu, rfl⟩
      · exact .inl q
      · exact hval u hu
  · refine List.Pairwise.imp_of_mem ?_ hrise.1
    intro u v hu hv huv hw1 hw2 e
    obtain ⟨x, hx, k, p, hp, hb, hu2⟩ := (uses_mem hs).1 hu
    obtain ⟨y, hy, j, q, hq, hb2, hv2⟩ := (uses_mem hs).1 hv
    have f1 := (usept_from hu2).1
    have f2 := (usept_from hv2).1
    rcases (usept_op hs hx hb).1 hu2 with ⟨g1, rfl⟩ | ⟨g1, t, ht, rfl⟩
    · rcases (usept_op hs hy hb2).1 hv2 with ⟨g2, rfl⟩ | ⟨g2, t, ht, rfl⟩
      · have := h.dist x hx y hy k p j q hp hq hb hb2 g1 g2 e
        subst this
        simp at huv
      · cases hw2
    · cases hw1
  · obtain ⟨x, hx, k, p, hp, hb, hu2⟩ := (uses_mem hs).1 hu
    rcases (usept_op hs hx hb).1 hu2 with ⟨g1, rfl⟩ | ⟨g1, t, ht, rfl⟩
    · exact (h.wr x hx k p hp hb g1).1
    · cases hw
  · rcases hval u hu with q | ⟨y, hy, j, q, hq, hb2, hw2, hd⟩
    · exact absurd q hz
    · refine ⟨⟨true, q.d, y.a, toldV y.told⟩, (uses_mem hs).2 ⟨y, hy, j, q, hq, hb2, (usept_op hs hy hb2).2 (.inl ⟨hw2, rfl⟩)⟩, rfl, hd, ?_⟩
      have := (h.wr y hy j q hq hb2 hw2).2.1
      rw [hd] at this
      exact this
end Go.Proofs.Ytodjlaapmbnahaa
/-
  A history goes on: something is asked for, done, told (pure).
-/

namespace Go.Proofs.Ytodjlaapmbnahaa
open Go.RowKit
set_option linter.unusedVariables false
set_option linter.unusedSimpArgs false

theorem valW_mono {ops ops' : List OpR} {b : Nat} {v : ByteArray} (h : valW ops b v) (hs : ∀ x ∈ ops, ∃ y ∈ ops', y.parts = x.parts) : valW ops' b v := by
  rcases h with q | ⟨x, hx, k, p, h1, h2⟩
  · exact .inl q
  · obtain ⟨y, hy, e⟩ := hs x hx
    exact .inr ⟨y, hy, k, p, by rw [e]; exact h1, h2⟩
def I0 : ByteArray → Int × Int := fun v => if v = zeroL 32 then (-1, NV) else (NV, NV + 1)
theorem hs0 : Hs [] [] := ⟨by simp, by simp, by simp, by simp, by simp⟩
theorem hb0 (b : Nat) (hb : b < 4) : HB b [] (List.replicate 4 (zeroL 32)) [] I0 := by
  have hz : I0 (zeroL 32) = (-1, NV) := by unfold I0; rw [if_pos rfl]
  refine ⟨?_, fun v => ?_, fun v hv => ?_, ⟨zeroL 32, by rw [List.getElem?_replicate, if_pos hb], .inl rfl, by rw [hz], by rw [hz]; decide⟩, fun v1 v2 hne h1 h2 => ?_, by simp, by simp, by simp⟩
  · rw [hz]; exact ⟨Int.le_refl _, by decide⟩
  · by_cases h : v = zeroL 32
    · subst h; rw [hz]; exact .inr ⟨by decide, Int.le_refl _⟩
    · left; unfold I0; rw [if_neg h]
  · unfold I0
    rw [if_neg fun h => hv (.inl h)]
  · rcases h1 with h1 | ⟨x, hx, _⟩
    · rcases h2 with h2 | ⟨x, hx, _⟩
      · exact absurd (h1.trans h2.symm) hne
      · simp at hx
    · simp at hx
theorem told_ask {E : List Ev} {e : Ev} (he : e.ans = false) (z : Int) : told (E ++ [e]) z = told E z := by
  rw [told_next]
  cases told E z with
  | some k => rfl
  | none => simp [isTold, he]
theorem get_old {E : List Ev} {e : Ev} {i : Nat} {y : Ev} (h : E[i]? = some y) : (E ++ [e])[i]? = some y := by
  rw [List.getElem?_append_left (List.getElem?_eq_some_iff.1 h).1]; exact h
/-- something is asked for -/
theorem hs_ask {E : List Ev} {ops : List OpR} (h : Hs E ops) (x : OpR) (hxa : x.a = E.length) (hxt : x.told = none) (hid : ∀ y ∈ ops, y.id ≠ x.id) (hno : told E x.id = none) : Hs (E ++ [x.ev]) (x :: ops) := by
  refine ⟨fun y hy => ?_, fun i e he ha => ?_, fun y hy => ?_, fun y hy t ht => ?_, fun y hy z hz e => ?_⟩
  · rcases List.mem_cons.1 hy with rfl | q
    · rw [hxa]; simp
    · exact get_old (h.at_ y q)
  · rcases Nat.lt_or_ge i E.length with q | q
    · rw [List.getElem?_append_left q] at he
      obtain ⟨y, hy, e1⟩ := h.asks i e he ha
      exact ⟨y, List.mem_cons_of_mem _ hy, e1⟩
    · have := (List.getElem?_eq_some_iff.1 he).1
      simp at this
      exact ⟨x, List.mem_cons_self .., by omega⟩
  · rw [told_ask rfl]
    rcases List.mem_cons.1 hy with rfl | q
    · rw [hno, hxt]
    · exact h.told y q
  · rcases List.mem_cons.1 hy with rfl | q
    · rw [hxt] at ht; cases ht
    · obtain ⟨e, he, h1⟩ := h.ans y q t ht
      exact ⟨e, get_old he, h1⟩
  · rcases List.mem_cons.1 hy with rfl | q
    · rcases List.mem_cons.1 hz with rfl | q2
      · rfl
      · exact absurd e.symm (hid z q2)
    · rcases List.mem_cons.1 hz with rfl | q2
      · exact absurd e (hid y q)
      · exact h.idi y q z q2 e
theorem hb_ask {b : Nat} {E : List Ev} {V : List ByteArray} {ops : List OpR} {I : ByteArray → Int × Int} (hs : Hs E ops) (h : HB b E V ops I) (x : OpR) (hxa : x.a = E.length) (hxd : x.done = false) (hxt : x.told = none) (hE : (E.length : Int) < NV)
    (hnew : ∀ (k : Nat) (p : Pt), x.parts[k]? = some p → p.b = (b : Int) → p.wr = true → p.d ≠ zeroL 32 ∧ ∀ y ∈ ops, ∀ (j : Nat) (q : Pt), y.parts[j]? = some q → q.b = (b : Int) → q.wr = true → q.d ≠ p.d) : HB b (E ++ [x.ev]) V (x :: ops) I := by
  have hlen : ((E ++ [x.ev]).length : Int) = E.length + 1 := by simp
  have hmono : ∀ v, valW ops b v → valW (x :: ops) b v := fun v hv => valW_mono hv fun y hy => ⟨y, List.mem_cons_of_mem _ hy, rfl⟩
  have hnv : ∀ (k : Nat) (p : Pt), x.parts[k]? = some p → p.b = (b : Int) → p.wr = true → ¬ valW ops b p.d := fun k p h1 h2 h3 hv => by
    obtain ⟨n1, n2⟩ := hnew k p h1 h2 h3
    rcases hv with q | ⟨y, hy, j, q, g1, g2, g3, g4⟩
    · exact n1 q
    · exact n2 y hy j q g1 g2 g3 g4
  refine ⟨h.z, fun v => ?_, fun v hv => h.fresh v fun q => hv (hmono v q), ?_, fun v1 v2 hne h1 h2 => ?_, fun y hy k p h1 h2 h3 => ?_, fun y hy hd k p h1 h2 h3 => ?_, fun y hy z hz k p j q h1 h2 h3 h4 h5 h6 e => ?_⟩
  · rcases h.lo v with q | ⟨q, q2⟩
    · exact .inl q
    · exact .inr ⟨by omega, q2⟩
  · obtain ⟨v, h1, h2, h3, h4⟩ := h.cur
    exact ⟨v, h1, hmono v h2, h3, by omega⟩
  · by_cases g1 : valW ops b v1
    · by_cases g2 : valW ops b v2
      · exact h.ord v1 v2 hne g1 g2
      · have e2 := h.fresh v2 g2
        rcases h.lo v1 with q | ⟨q, q2⟩
        · exact .inr (.inr ⟨q, by rw [e2]⟩)
        · exact .inl (by rw [e2]; exact q2)
    · have e1 := h.fresh v1 g1
      rcases h.lo v2 with q | ⟨q, q2⟩
      · exact .inr (.inr ⟨by rw [e1], q⟩)
      · exact .inr (.inl (by rw [e1]; exact q2))
  · rcases List.mem_cons.1 hy with rfl | q
    · have e := h.fresh p.d (hnv k p h1 h2 h3)
      refine ⟨(hnew k p h1 h2 h3).1, by rw [e, hxa]; exact hE, by rw [e, hxa]; show (E.length : Int) < NV + 1; omega, fun _ => e, fun hd => (by rw [hxd] at hd; cases hd), fun t ht => (by rw [hxt] at ht; cases ht)⟩
    · obtain ⟨a1, a2, a3, a4, a5, a6⟩ := h.wr y q k p h1 h2 h3
      exact ⟨a1, a2, a3, a4, fun hd => by have := a5 hd; omega, a6⟩
  · rcases List.mem_cons.1 hy with rfl | q
    · rw [hxd] at hd; cases hd
    · obtain ⟨a1, a2, a3, a4⟩ := h.rd y q hd k p h1 h2 h3
      exact ⟨hmono _ a1, by omega, a3, a4⟩
  · rcases List.mem_cons.1 hy with rfl | g1
    · rcases List.mem_cons.1 hz with rfl | g2
      · rfl
      · exact absurd e.symm ((hnew k p h1 h3 h5).2 z g2 j q h2 h4 h6)
    · rcases List.mem_cons.1 hz with rfl | g2
      · exact absurd e ((hnew j q h2 h4 h6).2 y g1 k p h1 h3 h5)
      · exact h.dist y g1 z g2 k p j q h1 h2 h3 h4 h5 h6 e
/-- one of them turned -/
def rep (ops : List OpR) (x : OpR) : List OpR := x :: ops.filter fun y => decide (y.id ≠ x.id)
theorem mem_rep {ops : List OpR} {x y : OpR} : y ∈ rep ops x ↔ y = x ∨ (y ∈ ops ∧ y.id ≠ x.id) := by simp [rep]
/-- something is told -/
def OpR.ans (x : OpR) : Ev := ⟨true, x.id, 5, 0, 0, 0, ⟨#[]⟩, false, 0, x.out⟩
theorem hs_tell {E : List Ev} {ops : List OpR} (h : Hs E ops) (x : OpR) (hx : x ∈ ops) (hd : x.done = true) (ht : x.told = none) : Hs (E ++ [x.ans]) (rep ops { x with told := some E.length }) := by
  refine ⟨fun y hy => ?_, fun i e he ha => ?_, fun y hy => ?_, fun y hy t hty => ?_, fun y hy z hz e => ?_⟩
  · rcases mem_rep.1 hy with rfl | ⟨q, -⟩
    · exact get_old (h.at_ x hx)
    · exact get_old (h.at_ y q)
  · rcases Nat.lt_or_ge i E.length with q | q
    · rw [List.getElem?_append_left q] at he
      obtain ⟨y, hy, e1⟩ := h.asks i e he ha
      by_cases hyx : y.id = x.id
      · have := h.idi y hy x hx hyx
        subst this
        exact ⟨_, mem_rep.2 (.inl rfl), e1⟩
      · exact ⟨y, mem_rep.2 (.inr ⟨hy, hyx⟩), e1⟩
    · have hi := (List.getElem?_eq_some_iff.1 he).1
      simp at hi
      have : i = E.length := by omega
      subst this
      simp at he
      subst he
      cases ha
  · rw [told_next]
    rcases mem_rep.1 hy with rfl | ⟨q, hne⟩
    · show (match told E x.id with | some k => some k | none => if isTold x.id x.ans = true then some E.length else none) = some E.length
      rw [h.told x hx, ht]
      simp [isTold, OpR.ans]
    · rw [h.told y q]
      cases y.told with
      | some k => rfl
      | none =>
        have : isTold y.id x.ans = false := by unfold isTold; exact decide_eq_false (fun (e : x.id = y.id) => hne e.symm)
        simp [this]
  · rcases mem_rep.1 hy with rfl | ⟨q, hne⟩
    · cases hty
      exact ⟨x.ans, by simp, rfl, rfl, hd⟩
    · obtain ⟨e, he, h1⟩ := h.ans y q t hty
      exact ⟨e, get_old he, h1⟩
  · rcases mem_rep.1 hy with rfl | ⟨q, hne⟩
    · rcases mem_rep.1 hz with rfl | ⟨q2, hne2⟩
      · rfl
      · exact absurd e.symm hne2
    · rcases mem_rep.1 hz with rfl | ⟨q2, hne2⟩
      · exact absurd e hne
      · exact h.idi y q z q2 e
theorem val_rep {ops : List OpR} {x x' : OpR} {b : Nat} {v : ByteArray} (hidi : ∀ y ∈ ops, y.id = x.id → y = x) (hid : x'.id = x.id) (hp : x'.parts = x.parts) (h : valW ops b v) : valW (rep ops x') b v :=
  valW_mono h fun y hy => by
    by_cases e : y.id = x.id
    · exact ⟨x', mem_rep.2 (.inl rfl), by rw [hp, hidi y hy e]⟩
    · exact ⟨y, mem_rep.2 (.inr ⟨hy, by rw [hid]; exact e⟩), rfl⟩
theorem val_unrep {ops : List OpR} {x x' : OpR} {b : Nat} {v : ByteArray} (hx : x ∈ ops) (hp : x'.parts = x.parts) (h : valW (rep ops x') b v) : valW ops b v :=
  valW_mono h fun y hy => by
    rcases mem_rep.1 hy with rfl | ⟨q, -⟩
    · exact ⟨x, hx, hp.symm⟩
    · exact ⟨y, q, rfl⟩
theorem hb_tell {b : Nat} {E : List Ev} {V : List ByteArray} {ops : List OpR} {I : ByteArray → Int × Int} (hs : Hs E ops) (h : HB b E V ops I) (x : OpR) (hx : x ∈ ops) (hd : x.done = true) : HB b (E ++ [x.ans]) V (rep ops { x with told := some E.length }) I := by
  have hlen : ((E ++ [x.ans]).length : Int) = E.length + 1 := by simp
  have hup := fun v => val_rep (ops := ops) (x := x) (x' := { x with told := some E.length }) (b := b) (v := v) (fun y hy e => hs.idi y hy x hx e) rfl rfl
  have hdn := fun v => val_unrep (ops := ops) (x := x) (x' := { x with told := some E.length }) (b := b) (v := v) hx rfl
  refine ⟨h.z, fun v => ?_, fun v hv => h.fresh v fun q => hv (hup v q), ?_, fun v1 v2 hne h1 h2 => h.ord v1 v2 hne (hdn v1 h1) (hdn v2 h2), fun y hy k p h1 h2 h3 => ?_, fun y hy hd' k p h1 h2 h3 => ?_, fun y hy z hz k p j q h1 h2 h3 h4 h5 h6 e => ?_⟩
  · rcases h.lo v with q | ⟨q, q2⟩
    · exact .inl q
    · exact .inr ⟨by omega, q2⟩
  · obtain ⟨v, h1, h2, h3, h4⟩ := h.cur
    exact ⟨v, h1, hup v h2, h3, by omega⟩
  · rcases mem_rep.1 hy with rfl | ⟨q, -⟩
    · obtain ⟨a1, a2, a3, a4, a5, a6⟩ := h.wr x hx k p h1 h2 h3
      exact ⟨a1, a2, a3, a4, fun hd => by have := a5 hd; omega, fun t ht => by cases ht; exact a5 hd⟩
    · obtain ⟨a1, a2, a3, a4, a5, a6⟩ := h.wr y q k p h1 h2 h3
      exact ⟨a1, a2, a3, a4, fun hd => by have := a5 hd; omega, a6⟩
  · rcases mem_rep.1 hy with rfl | ⟨q, -⟩
    · obtain ⟨a1, a2, a3, a4⟩ := h.rd x hx hd k p h1 h2 h3
      exact ⟨hup _ a1, Int.le_trans a2 (by omega), a3, fun t ht => by cases ht; exact a2⟩
    · obtain ⟨a1, a2, a3, a4⟩ := h.rd y q hd' k p h1 h2 h3
      exact ⟨hup _ a1, by omega, a3, a4⟩
  · rcases mem_rep.1 hy with rfl | ⟨g1, n1⟩
    · rcases mem_rep.1 hz with rfl | ⟨g2, n2⟩
      · rfl
      · have := h.dist x hx z g2 k p j q h1 h2 h3 h4 h5 h6 e
        subst this
        exact absurd rfl n2
    · rcases mem_rep.1 hz with rfl | ⟨g2, n2⟩
      · have := h.dist y g1 x hx k p j q h1 h2 h3 h4 h5 h6 e
        subst this
        exact absurd rfl n1
      · exact h.dist y g1 z g2 k p j q h1 h2 h3 h4 h5 h6 e
/-- something is done -/
theorem hs_do {E : List Ev} {ops : List OpR} (h : Hs E ops) (x : OpR) (hx : x ∈ ops) (ht : x.told = none) (o : ByteArray) : Hs E (rep ops { x with done := true, out := o }) := by
  refine ⟨fun y hy => ?_, fun i e he ha => ?_, fun y hy => ?_, fun y hy t hty => ?_, fun y hy z hz e => ?_⟩
  · rcases mem_rep.1 hy with rfl | ⟨q, -⟩
    · exact h.at_ x hx
    · exact h.at_ y q
  · obtain ⟨y, hy, e1⟩ := h.asks i e he ha
    by_cases hyx : y.id = x.id
    · have := h.idi y hy x hx hyx
      subst this
      exact ⟨_, mem_rep.2 (.inl rfl), e1⟩
    · exact ⟨y, mem_rep.2 (.inr ⟨hy, hyx⟩), e1⟩
  · rcases mem_rep.1 hy with rfl | ⟨q, hne⟩
    · exact h.told x hx
    · exact h.told y q
  · rcases mem_rep.1 hy with rfl | ⟨q, hne⟩
    · rw [show ({ x with done := true, out := o } : OpR).told = x.told from rfl, ht] at hty; cases hty
    · exact h.ans y q t hty
  · rcases mem_rep.1 hy with rfl | ⟨q, hne⟩
    · rcases mem_rep.1 hz with rfl | ⟨q2, hne2⟩
      · rfl
      · exact absurd e.symm hne2
    · rcases mem_rep.1 hz with rfl | ⟨q2, hne2⟩
      · exact absurd e hne
      · exact h.idi y q z q2 e
theorem part_uniq {x : OpR} {k j : Nat} {p q : Pt} (h1 : x.parts[k]? = some p) (h2 : x.parts[j]? = some q) (e : p.b = q.b) : k = j ∧ p = q := by
  have e1 := (parts_b h1).1
  have e2 := (parts_b h2).1
  have : k = j := by omega
  subst this
  rw [h1] at h2
  exact ⟨rfl, Option.some.inj h2⟩
/-- done, where it writes nothing of this block -/
theorem hb_do_read {b : Nat} {E : List Ev} {V V' : List ByteArray} {ops : List OpR} {I : ByteArray → Int × Int} (hs : Hs E ops) (h : HB b E V ops I) (x : OpR) (hx : x ∈ ops) (hxd : x.done = false) (ht : x.told = none) (o : ByteArray) (hE : (E.length : Int) < NV)
    (hno : ∀ (k : Nat) (p : Pt), x.parts[k]? = some p → p.b = (b : Int) → p.wr = false) (hrd : ∀ (k : Nat) (p : Pt), x.parts[k]? = some p → p.b = (b : Int) → V[b]? = some (rdV o k)) (hV : V'[b]? = V[b]?) : HB b E V' (rep ops { x with done := true, out := o }) I := by
  have hup := fun v => val_rep (ops := ops) (x := x) (x' := { x with done := true, out := o }) (b := b) (v := v) (fun y hy e => hs.idi y hy x hx e) rfl rfl
  have hdn := fun v => val_unrep (ops := ops) (x := x) (x' := { x with done := true, out := o }) (b := b) (v := v) hx rfl
  have hxa := (List.getElem?_eq_some_iff.1 (hs.at_ x hx)).1
  refine ⟨h.z, h.lo, fun v hv => h.fresh v fun q => hv (hup v q), ?_, fun v1 v2 hne h1 h2 => h.ord v1 v2 hne (hdn v1 h1) (hdn v2 h2), fun y hy k p h1 h2 h3 => ?_, fun y hy hd' k p h1 h2 h3 => ?_, fun y hy z hz k p j q h1 h2 h3 h4 h5 h6 e => ?_⟩
  · obtain ⟨v, h1, h2, h3, h4⟩ := h.cur
    exact ⟨v, by rw [hV]; exact h1, hup v h2, h3, h4⟩
  · rcases mem_rep.1 hy with rfl | ⟨q, -⟩
    · rw [hno k p h1 h2] at h3; cases h3
    · exact h.wr y q k p h1 h2 h3
  · rcases mem_rep.1 hy with rfl | ⟨q, -⟩
    · obtain ⟨v, g1, g2, g3, g4⟩ := h.cur
      have e := (hrd k p h1 h2).symm.trans g1
      have e := Option.some.inj e
      show valW _ b (rdV o k) ∧ (I (rdV o k)).1 ≤ _ ∧ _ < (I (rdV o k)).2 ∧ ∀ t : Nat, x.told = some t → _
      rw [e]
      exact ⟨hup v g2, g4, by rw [g3]; show (x.a : Int) < NV; omega, fun t h => by rw [ht] at h; cases h⟩
    · obtain ⟨a1, a2, a3, a4⟩ := h.rd y q hd' k p h1 h2 h3
      exact ⟨hup _ a1, a2, a3, a4⟩
  · rcases mem_rep.1 hy with rfl | ⟨g1, n1⟩
    · rw [hno k p h1 h3] at h5; cases h5
    · rcases mem_rep.1 hz with rfl | ⟨g2, n2⟩
      · rw [hno j q h2 h4] at h6; cases h6
      · exact h.dist y g1 z g2 k p j q h1 h2 h3 h4 h5 h6 e
/-- where values were there, behind a writing at this place -/
def turnI (I : ByteArray → Int × Int) (c v : ByteArray) (P : Nat) : ByteArray → Int × Int := fun z => if z = v then ((P : Int), NV) else if z = c then ((I c).1, (P : Int)) else I z
theorem hb_do_write {b : Nat} {E : List Ev} {V V' : List ByteArray} {ops : List OpR} {I : ByteArray → Int × Int} (hs : Hs E ops) (h : HB b E V ops I) (x : OpR) (hx : x ∈ ops) (hxd : x.done = false) (ht : x.told = none) (o : ByteArray) (hE : (E.length : Int) < NV)
    (k0 : Nat) (p0 : Pt) (hp : x.parts[k0]? = some p0) (hpb : p0.b = (b : Int)) (hpw : p0.wr = true) (hV : V'[b]? = some p0.d) : ∃ I', HB b E V' (rep ops { x with done := true, out := o }) I' := by
  have hup := fun v => val_rep (ops := ops) (x := x) (x' := { x with done := true, out := o }) (b := b) (v := v) (fun y hy e => hs.idi y hy x hx e) rfl rfl
  have hdn := fun v => val_unrep (ops := ops) (x := x) (x' := { x with done := true, out := o }) (b := b) (v := v) hx rfl
  have hal : ∀ y ∈ ops, y.a < E.length := fun y hy => (List.getElem?_eq_some_iff.1 (hs.at_ y hy)).1
  obtain ⟨c, c1, c2, c3, c4⟩ := h.cur
  obtain ⟨n1, n2, n3, n4, n5, n6⟩ := h.wr x hx k0 p0 hp hpb hpw
  have hI := n4 hxd
  have hcv : c ≠ p0.d := fun e => by rw [e, hI] at c4; have : NV ≤ (E.length : Int) := c4; omega
  have hvW : valW ops b p0.d := .inr ⟨x, hx, k0, p0, hp, hpb, hpw, rfl⟩
  have hzv : zeroL 32 ≠ p0.d := fun e => n1 e.symm
  have tv : turnI I c p0.d E.length p0.d = ((E.length : Int), NV) := by unfold turnI; rw [if_pos rfl]
  have tc : turnI I c p0.d E.length c = ((I c).1, (E.length : Int)) := by unfold turnI; rw [if_neg hcv, if_pos rfl]
  have tq : ∀ z, z ≠ p0.d → z ≠ c → turnI I c p0.d E.length z = I z := fun z h1 h2 => by unfold turnI; rw [if_neg h1, if_neg h2]
  -- another value that was there had gone ahead of this
  have hold : ∀ z, z ≠ p0.d → z ≠ c → valW ops b z → (I z).1 ≠ NV → (I z).2 ≤ (E.length : Int) := fun z h1 h2 hz hn => by
    rcases h.ord z c h2 hz c2 with q | q | ⟨q1, q2⟩
    · omega
    · rw [c3] at q
      rcases h.lo z with q2 | ⟨q2, -⟩
      · exact absurd q2 hn
      · omega
    · exact absurd q1 hn
  -- no other one writes this value
  have hother : ∀ y ∈ ops, y.id ≠ x.id → ∀ (k : Nat) (p : Pt), y.parts[k]? = some p → p.b = (b : Int) → p.wr = true → p.d ≠ p0.d := fun y hy hne k p h1 h2 h3 e => by
    have := h.dist y hy x hx k p k0 p0 h1 hp h2 hpb h3 hpw e
    subst this
    exact hne rfl
  have hnotv : ∀ y ∈ ops, y.done = true → ∀ (k : Nat) (p : Pt), y.parts[k]? = some p → p.b = (b : Int) → p.wr = false → rdV y.out k ≠ p0.d := fun y hy hd k p h1 h2 h3 e => by
    have := (h.rd y hy hd k p h1 h2 h3).2.1
    rw [e, hI] at this
    have : NV ≤ (E.length : Int) := this
    omega
  refine ⟨turnI I c p0.d E.length, ⟨?_, fun z => ?_, fun z hz => ?_, ⟨p0.d, hV, hup _ hvW, by rw [tv], by rw [tv]; exact Int.le_refl _⟩, fun v1 v2 hne h1 h2 => ?_, fun y hy k p h1 h2 h3 => ?_, fun y hy hd' k p h1 h2 h3 => ?_, fun y hy z hz k p j q h1 h2 h3 h4 h5 h6 e => ?_⟩⟩
  · by_cases e : zeroL 32 = c
    · rw [e, tc, ← e]
      exact ⟨h.z.1, by show (-1 : Int) < (E.length : Int); omega⟩
    · rw [tq _ hzv e]; exact h.z
  · by_cases e1 : z = p0.d
    · rw [e1, tv]; exact .inr ⟨Int.le_refl _, Int.le_refl _⟩
    · by_cases e2 : z = c
      · rw [e2, tc]; exact .inr ⟨c4, by show (E.length : Int) ≤ NV; omega⟩
      · rw [tq z e1 e2]; exact h.lo z
  · have hz' : ¬ valW ops b z := fun q => hz (hup z q)
    rw [tq z (fun e => hz' (by rw [e]; exact hvW)) (fun e => hz' (by rw [e]; exact c2))]
    exact h.fresh z hz'
  · have key : ∀ z, z ≠ p0.d → valW ops b z → (turnI I c p0.d E.length z).2 ≤ (turnI I c p0.d E.length p0.d).1 ∨ (turnI I c p0.d E.length p0.d).2 ≤ (turnI I c p0.d E.length z).1 := fun z e1 hz => by
      rw [tv]
      by_cases e2 : z = c
      · rw [e2, tc]; exact .inl (Int.le_refl _)
      · rw [tq z e1 e2]
        by_cases hn : (I z).1 = NV
        · exact .inr (by rw [hn]; exact Int.le_refl _)
        · exact .inl (hold z e1 e2 hz hn)
    by_cases e1 : v1 = p0.d
    · subst e1
      rcases key v2 (fun e => hne e.symm) (hdn v2 h2) with q | q
      · exact .inr (.inl q)
      · exact .inl q
    · by_cases e2 : v2 = p0.d
      · subst e2
        rcases key v1 e1 (hdn v1 h1) with q | q
        · exact .inl q
        · exact .inr (.inl q)
      · have hcz : ∀ z, z ≠ p0.d → z ≠ c → valW ops b z → (I z).2 ≤ (I c).1 ∨ (E.length : Int) ≤ (I z).1 := fun z g1 g2 g3 => by
          by_cases hn : (I z).1 = NV
          · right; omega
          · rcases h.ord z c g2 g3 c2 with q | q | ⟨q1, q2⟩
            · exact .inl q
            · right; rw [c3] at q; omega
            · exact absurd q1 hn
        by_cases e3 : v1 = c
        · subst e3
          rw [tc, tq v2 e2 (fun e => hne e.symm)]
          rcases hcz v2 e2 (fun e => hne e.symm) (hdn v2 h2) with q | q
          · exact .inr (.inl q)
          · exact .inl q
        · by_cases e4 : v2 = c
          · subst e4
            rw [tc, tq v1 e1 e3]
            rcases hcz v1 e1 e3 (hdn v1 h1) with q | q
            · exact .inl q
            · exact .inr (.inl q)
          · rw [tq v1 e1 e3, tq v2 e2 e4]
            exact h.ord v1 v2 hne (hdn v1 h1) (hdn v2 h2)
  · rcases mem_rep.1 hy with rfl | ⟨g, hne⟩
    · obtain ⟨rfl, rfl⟩ := part_uniq (x := x) h1 hp (h2.trans hpb.symm)
      have := hal x hx
      rw [tv]
      exact ⟨n1, by show (x.a : Int) < (E.length : Int); omega, by show (x.a : Int) < NV; omega, (fun hd => Bool.noConfusion hd), fun _ => Int.le_refl _, fun t h => (by rw [show ({ x with done := true, out := o } : OpR).told = x.told from rfl, ht] at h; cases h)⟩
    · obtain ⟨a1, a2, a3, a4, a5, a6⟩ := h.wr y g k p h1 h2 h3
      have e1 := hother y g hne k p h1 h2 h3
      by_cases e2 : p.d = c
      · rw [e2] at a1 a2 a3 a4 a5 a6 ⊢
        rw [tc]
        have := hal y g
        exact ⟨a1, a2, by show (y.a : Int) < (E.length : Int); omega, fun hd => by have := a4 hd; rw [this] at c4; have : NV ≤ (E.length : Int) := c4; omega, a5, a6⟩
      · rw [tq p.d e1 e2]
        exact ⟨a1, a2, a3, a4, a5, a6⟩
  · rcases mem_rep.1 hy with rfl | ⟨g, hne⟩
    · obtain ⟨rfl, rfl⟩ := part_uniq (x := x) h1 hp (h2.trans hpb.symm)
      rw [hpw] at h3; cases h3
    · obtain ⟨a1, a2, a3, a4⟩ := h.rd y g hd' k p h1 h2 h3
      have e1 := hnotv y g hd' k p h1 h2 h3
      by_cases e2 : rdV y.out k = c
      · rw [e2] at a1 a2 a3 a4 ⊢
        rw [tc]
        have := hal y g
        exact ⟨hup _ a1, a2, by show (y.a : Int) < (E.length : Int); omega, a4⟩
      · rw [tq _ e1 e2]
        exact ⟨hup _ a1, a2, a3, a4⟩
  · rcases mem_rep.1 hy with rfl | ⟨g1, m1⟩
    · rcases mem_rep.1 hz with rfl | ⟨g2, m2⟩
      · rfl
      · have := h.dist x hx z g2 k p j q h1 h2 h3 h4 h5 h6 e
        subst this
        exact absurd rfl m2
    · rcases mem_rep.1 hz with rfl | ⟨g2, m2⟩
      · have := h.dist y g1 x hx k p j q h1 h2 h3 h4 h5 h6 e
        subst this
        exact absurd rfl m1
      · exact h.dist y g1 z g2 k p j q h1 h2 h3 h4 h5 h6 e
end Go.Proofs.Ytodjlaapmbnahaa
/-
  Plain memory's answers, and what is done at once (a history's step).
-/


namespace Go.Proofs.Ytodjlaapmbnahaa
open Go.RowKit
set_option linter.unusedVariables false
set_option linter.unusedSimpArgs false

/-- what plain memory answers -/
def outS (s : Stp) (L : List ByteArray) : ByteArray := if s.W ≠ 3 ∧ AskMay s.W s.A s.L s.D 4 then ⟨(outL s.W (s.A / 32).toNat L (askSz s.W s.L s.D / 32).toNat).toArray⟩ else ⟨#[]⟩
def RStepX (s : Stp) (p : Nat) (L : List ByteArray) (w : World) (ev : Ending) (w' : World) : Prop :=
  ∃ p' cap' ok, ev = .returned (.tuple #[.agg #[.slice (some ⟨p', 0, none⟩) 4 cap'], .string (outS s L), .bool ok]) ∧ VAt p' cap' (stepV s L) w' ∧ Blks (stepV s L) ∧ (outS s L).size ≤ 128 ∧ (p' = p ∨ w.heap.size ≤ p') ∧ Below w.heap.size w w'
theorem rstepX (s : Stp) (p cap : Nat) (L : List ByteArray) (w : World) (hV : VAt p cap L w) (hA : (Lit.int .i64 s.A).wf = true) (hLn : (Lit.int .i64 s.L).wf = true) (hD : s.D.size ≤ maxLen) (hB : Blks L) (hn : L.length = 4) :
    Calls Try.prog 18 #[.agg #[.slice (some ⟨p, 0, none⟩) 4 cap], .agg #[.int .i64 s.W, .int .i64 s.A, .int .i64 s.L, .string s.D, .bool s.S]] w (RStepX s p L w) := by
  have hL4 : ((L.length : Nat) : Int) = 4 := by rw [hn]; rfl
  by_cases hm : AskMay s.W s.A s.L s.D 4
  · by_cases h3 : s.W = 3
    · have e : stepV s L = L := by unfold stepV; rw [if_neg (fun h => h.1 h3)]
      unfold RStepX
      rw [e]
      have h := rdo p cap L s.W s.A s.L 0 0 s.D s.S w hV hA hLn hD hB (by omega) (by omega) (by rw [hL4]; exact hm) (by omega) (fun _ => rfl) (fun h => absurd h3 h)
      rw [hn] at h
      refine h.mono ?_
      rintro ev w' ⟨p', cap', h1, h2, h3', h4⟩
      rw [hn] at h1
      have eo : outS s L = ⟨(outL s.W 0 L 0).toArray⟩ := by unfold outS; rw [if_neg (fun h => h.1 h3)]; rfl
      exact ⟨p', cap', _, by rw [eo]; exact h1, h2, hB, by rw [eo]; show (outL _ _ _ 0).toArray.size ≤ 128; simp [outL], .inr h3', h4⟩
    · have hin : 0 ≤ s.W ∧ s.W ≤ 2 ∧ Inside s.A (askSz s.W s.L s.D) 4 := hm.elim (fun h => absurd h h3) id
      have h2 := hin.2.2
      unfold Inside at h2
      obtain ⟨q, hq⟩ : ∃ q : Nat, (s.A / 32).toNat = q := ⟨_, rfl⟩
      obtain ⟨m, hz⟩ : ∃ m : Nat, (askSz s.W s.L s.D / 32).toNat = m := ⟨_, rfl⟩
      have hq' : s.A = ((32 * q : Nat) : Int) := by omega
      have hz' : askSz s.W s.L s.D = ((32 * m : Nat) : Int) := by omega
      have hqm : q + m ≤ L.length ∧ m ≤ 4 := by omega
      have hW : s.W = 0 ∨ s.W = 1 ∨ s.W = 2 := by omega
      have hdz : s.W = 1 → s.D.size = 32 * m := by
        intro h
        rw [askSz, if_pos h] at hz'
        omega
      have e : stepV s L = doL s.W q s.D L m := by unfold stepV; rw [if_pos ⟨h3, hm⟩, hq, hz]
      unfold RStepX
      rw [e]
      have h := rdo p cap L s.W s.A s.L q m s.D s.S w hV hA hLn hD hB (by omega) (by omega) (by rw [hL4]; exact hm) (by omega) (fun h => absurd h h3) (fun _ => ⟨hq', hz'⟩)
      rw [hn] at h
      refine h.mono ?_
      rintro ev w' ⟨p', cap', h1, h2', h3', h4⟩
      rw [hn] at h1
      have eo : outS s L = ⟨(outL s.W q L m).toArray⟩ := by unfold outS; rw [if_pos ⟨h3, hm⟩, hq, hz]
      refine ⟨p', cap', _, by rw [eo]; exact h1, h2', doL_blks hB hdz hW m (Nat.le_refl _), ?_, .inr h3', h4⟩
      rw [eo]
      show (outL s.W q L m).toArray.size ≤ 128
      rw [List.size_toArray]
      have := outL_len (W := s.W) hB hqm.1 m (Nat.le_refl _)
      omega
  · have e : stepV s L = L := by unfold stepV; rw [if_neg (fun h => hm h.2)]
    unfold RStepX
    rw [e]
    have h := rdo_no p cap L s.W s.A s.L s.D s.S w hA hLn hD (by omega) (by rw [hL4]; exact hm)
    rw [hn] at h
    refine h.mono ?_
    rintro ev w' ⟨h1, h2⟩
    rw [hn] at h1
    have eo : outS s L = ⟨#[]⟩ := by unfold outS; rw [if_neg (fun h => hm h.2)]
    exact ⟨p, cap, _, by rw [eo]; exact h1, hV.below h2, hB, by rw [eo]; decide, .inl rfl, h2⟩
theorem outL_size {q : Nat} {L : List ByteArray} (hL : Blks L) : ∀ m, q + m ≤ L.length → (outL 0 q L m).length = 32 * m
  | 0, _ => rfl
  | m + 1, h => by
    have ih := outL_size (q := q) hL m (by omega)
    have hb : (L.getD (q + m) ⟨#[]⟩).size = 32 := by
      rw [List.getD_eq_getElem?_getD, List.getElem?_eq_getElem (by omega)]
      exact hL _ (List.getElem_mem _)
    rw [outL, if_pos rfl, List.length_append, ih, data_len, hb]
    omega
theorem outL_get {q : Nat} {L : List ByteArray} (hL : Blks L) : ∀ m, q + m ≤ L.length → ∀ k, k < m → ((outL 0 q L m).drop (32 * k)).take 32 = (L.getD (q + k) ⟨#[]⟩).data.toList
  | 0, _, k, hk => by omega
  | m + 1, h, k, hk => by
    have hlen := outL_size (q := q) hL m (by omega)
    have hb : (L.getD (q + m) ⟨#[]⟩).data.toList.length = 32 := by
      rw [data_len, List.getD_eq_getElem?_getD, List.getElem?_eq_getElem (by omega)]
      exact hL _ (List.getElem_mem _)
    rw [outL, if_pos rfl]
    by_cases hkm : k < m
    · rw [List.drop_append_of_le_length (by omega), List.take_append_of_le_length (by rw [List.length_drop]; omega)]
      exact outL_get hL m (by omega) k hkm
    · obtain rfl : k = m := by omega
      rw [← hlen, List.drop_left, List.take_of_length_le (by omega)]
theorem read_part {s : Stp} {L : List ByteArray} {k : Nat} {p : Pt} (hW : s.W = 0) (hL : Blks L) (hn : L.length = 4) (hp : (evParts s.W s.A s.L s.D 4)[k]? = some p) : ∃ b : Nat, p.b = (b : Int) ∧ L[b]? = some (rdV (outS s L) k) := by
  obtain ⟨e1, e2, e3, e4⟩ := parts_b hp
  have hm : s.W ≠ 3 ∧ AskMay s.W s.A s.L s.D 4 := by
    refine Classical.byContradiction fun h => ?_
    unfold evParts at hp
    rw [if_neg h] at hp
    cases hp
  have hin : Inside s.A (askSz s.W s.L s.D) 4 := hm.2.elim (fun h => absurd h hm.1) (fun h => h.2.2)
  unfold Inside at hin
  obtain ⟨q, hq⟩ : ∃ q : Nat, (s.A / 32).toNat = q := ⟨_, rfl⟩
  obtain ⟨m, hz⟩ : ∃ m : Nat, (askSz s.W s.L s.D / 32).toNat = m := ⟨_, rfl⟩
  have hqm : q + m ≤ L.length := by omega
  have hk : k < m := by omega
  have eo : outS s L = ⟨(outL 0 q L m).toArray⟩ := by unfold outS; rw [if_pos hm, hq, hz, hW]
  have hsz := outL_size (q := q) hL m hqm
  have hos : (outS s L).size = 32 * m := by rw [eo]; show (outL 0 q L m).toArray.size = _; rw [List.size_toArray, hsz]
  have hg := outL_get hL m hqm k hk
  refine ⟨q + k, by rw [e1, hq], ?_⟩
  have hx : L[q + k]? = some (L.getD (q + k) ⟨#[]⟩) := by rw [List.getD_eq_getElem?_getD, List.getElem?_eq_getElem (by omega)]; rfl
  rw [hx]
  congr 1
  apply bytes_inj
  rw [← hg]
  unfold rdV
  rw [hos, show min (32 * k) (32 * m) = 32 * k by omega, show min (32 * k + 32) (32 * m) = 32 * k + 32 by omega, Lib.extract_data, eo]
  show ((outL 0 q L m).drop (32 * k)).take 32 = _
  first
    | (rw [show 32 * k + 32 - 32 * k = 32 by omega])
    | simp
def OpR.stp (x : OpR) : Stp := ⟨x.W, x.A, x.L, x.D, x.S, ⟨#[]⟩⟩
/-- something is done at once -/
theorem all_do {E : List Ev} {V : List ByteArray} {ops : List OpR} (hs : Hs E ops) (h : ∀ b, b < 4 → ∃ I, HB b E V ops I) (hL : Blks V) (hn : V.length = 4) (x : OpR) (hx : x ∈ ops) (hxd : x.done = false) (ht : x.told = none) (hE : (E.length : Int) < NV) :
    Hs E (rep ops { x with done := true, out := outS x.stp V }) ∧ ∀ b, b < 4 → ∃ I, HB b E (stepV x.stp V) (rep ops { x with done := true, out := outS x.stp V }) I := by
  refine ⟨hs_do hs x hx ht _, fun b hb => ?_⟩
  obtain ⟨I, hI⟩ := h b hb
  by_cases hW : x.W = 0
  · refine ⟨I, hb_do_read hs hI x hx hxd ht _ hE (fun k p h1 h2 => ?_) (fun k p h1 h2 => ?_) ?_⟩
    · rw [(parts_b h1).2.1, hW]; rfl
    · obtain ⟨b', e1, e2⟩ := read_part (s := x.stp) hW hL hn h1
      have : b' = b := by omega
      subst this
      exact e2
    · unfold stepV
      split
      · rw [show x.stp.W = 0 from hW, doL_read]
      · rfl
  · by_cases hm : x.W ≠ 3 ∧ AskMay x.W x.A x.L x.D 4
    · have hin : Inside x.A (askSz x.W x.L x.D) 4 := hm.2.elim (fun h => absurd h hm.1) (fun h => h.2.2)
      unfold Inside at hin
      have hV : ∀ b : Nat, (stepV x.stp V)[b]? = if (x.A / 32).toNat ≤ b ∧ b < (x.A / 32).toNat + (askSz x.W x.L x.D / 32).toNat then some (partD x.W x.D (b - (x.A / 32).toNat)) else V[b]? := fun b => by
        unfold stepV
        rw [if_pos (show x.stp.W ≠ 3 ∧ AskMay x.stp.W x.stp.A x.stp.L x.stp.D 4 from hm)]
        exact doL_get _ _ _ _ hW _ (by rw [hn]; show (x.A / 32).toNat + (askSz x.W x.L x.D / 32).toNat ≤ 4; omega) b
      by_cases hbb : (x.A / 32).toNat ≤ b ∧ b < (x.A / 32).toNat + (askSz x.W x.L x.D / 32).toNat
      · have hp : x.parts[b - (x.A / 32).toNat]? = some ⟨(((x.A / 32).toNat + (b - (x.A / 32).toNat) : Nat) : Int), !(x.W == 0), partD x.W x.D (b - (x.A / 32).toNat)⟩ := by
          unfold OpR.parts evParts
          rw [if_pos hm, List.getElem?_map, List.getElem?_range (by omega)]
          rfl
        exact hb_do_write hs hI x hx hxd ht _ hE _ _ hp (by show (((x.A / 32).toNat + (b - (x.A / 32).toNat) : Nat) : Int) = b; omega) (by show (!(x.W == 0)) = true; simp [hW]) (by rw [hV, if_pos hbb])
      · refine ⟨I, hb_do_read hs hI x hx hxd ht _ hE (fun k p h1 h2 => ?_) (fun k p h1 h2 => ?_) (by rw [hV, if_neg hbb])⟩
        · have e := parts_b h1
          exact absurd ⟨by omega, by omega⟩ hbb
        · have e := parts_b h1
          exact absurd ⟨by omega, by omega⟩ hbb
    · have hp : x.parts = [] := by unfold OpR.parts evParts; rw [if_neg hm]
      refine ⟨I, hb_do_read hs hI x hx hxd ht _ hE (fun k p h1 h2 => ?_) (fun k p h1 h2 => ?_) ?_⟩
      · rw [hp] at h1; cases h1
      · rw [hp] at h1; cases h1
      · unfold stepV; rw [if_neg (show ¬ (x.stp.W ≠ 3 ∧ AskMay x.stp.W x.stp.A x.stp.L x.stp.D 4) from hm)]
end Go.Proofs.Ytodjlaapmbnahaa
