/-
  tarnlaw40.events: what a history of few things did with its block (pure).
-/
import Derived.Test.YtodjlaapmbnahaaSfC
import Derived.Test.YtodjlaapmbnahaaNeedH
namespace Go.Proofs.Ytodjlaapmbnahaa
open Go.RowKit
set_option linter.unusedVariables false
set_option linter.unusedSimpArgs false

/-- what is asked for and told, so far -/
structure EvJ (E : List Ev) (n : Nat) : Prop where
  ask : ∀ (i : Nat) e, E[i]? = some e → e.ans = false → 1 ≤ e.id ∧ e.id ≤ n ∧ e.what ≠ 2 ∧ (e.what = 1 → ∃ m, MarkB e.id e.data m)
  uq : ∀ (i j : Nat) e f, E[i]? = some e → E[j]? = some f → e.ans = false → f.ans = false → e.id = f.id → i = j
  ans : ∀ (t : Nat) e, E[t]? = some e → e.ans = true → e.err = 0 ∧ ∃ (i : Nat) (f : Ev), i < t ∧ E[i]? = some f ∧ f.ans = false ∧ f.id = e.id
  ok : ∀ e ∈ E, EvOk e
theorem evj0 : EvJ [] 0 := ⟨fun i e h => by simp at h, fun i j e f h => by simp at h, fun i e h => by simp at h, fun e h => by simp at h⟩
theorem get_appB {E : List Ev} {x : Ev} {i : Nat} {e : Ev} (h : (E ++ [x])[i]? = some e) : E[i]? = some e ∨ (i = E.length ∧ e = x) := by
  rcases Nat.lt_or_ge i E.length with q | q
  · rw [List.getElem?_append_left q] at h; exact .inl h
  · rw [List.getElem?_append_right q] at h
    have hl := (List.getElem?_eq_some_iff.1 h).1
    simp at hl
    have e0 : i - E.length = 0 := by omega
    rw [e0] at h
    exact .inr ⟨by omega, (Option.some.inj h).symm⟩
theorem get_oldB {E : List Ev} {x : Ev} {i : Nat} {e : Ev} (h : E[i]? = some e) : (E ++ [x])[i]? = some e := by
  rw [List.getElem?_append_left (List.getElem?_eq_some_iff.1 h).1]; exact h
/-- something is asked for -/
theorem EvJ.asks {E : List Ev} {n : Nat} (h : EvJ E n) {x : Ev} (ha : x.ans = false) (hid : x.id = (n : Int) + 1) (hw : x.what ≠ 2) (hm : x.what = 1 → ∃ m, MarkB x.id x.data m) (ho : EvOk x) : EvJ (E ++ [x]) (n + 1) := by
  refine ⟨fun i e he hea => ?_, fun i j e f he hf hea hfa hef => ?_, fun t e he hea => ?_, fun e he => ?_⟩
  · rcases get_appB he with q | ⟨-, rfl⟩
    · have := h.ask i e q hea
      exact ⟨this.1, by omega, this.2.2⟩
    · exact ⟨by omega, by omega, hw, hm⟩
  · rcases get_appB he with q | ⟨q, rfl⟩
    · rcases get_appB hf with q2 | ⟨q2, rfl⟩
      · exact h.uq i j e f q q2 hea hfa hef
      · have := h.ask i e q hea
        omega
    · rcases get_appB hf with q2 | ⟨q2, rfl⟩
      · have := h.ask j f q2 hfa
        omega
      · omega
  · rcases get_appB he with q | ⟨-, rfl⟩
    · obtain ⟨h1, i, f, h2, h3, h4⟩ := h.ans t e q hea
      exact ⟨h1, i, f, h2, get_oldB h3, h4⟩
    · rw [ha] at hea; cases hea
  · rcases List.mem_append.1 he with q | q
    · exact h.ok e q
    · rw [List.mem_singleton.1 q]; exact ho
/-- something is told -/
theorem EvJ.tells {E : List Ev} {n : Nat} (h : EvJ E n) {x o : Ev} (ho : o ∈ E) (hoa : o.ans = false) (ha : x.ans = true) (hid : x.id = o.id) (he0 : x.err = 0) (hok : EvOk x) : EvJ (E ++ [x]) n := by
  refine ⟨fun i e he hea => ?_, fun i j e f he hf hea hfa hef => ?_, fun t e he hea => ?_, fun e he => ?_⟩
  · rcases get_appB he with q | ⟨-, rfl⟩
    · exact h.ask i e q hea
    · rw [ha] at hea; cases hea
  · rcases get_appB he with q | ⟨q, rfl⟩
    · rcases get_appB hf with q2 | ⟨q2, rfl⟩
      · exact h.uq i j e f q q2 hea hfa hef
      · rw [ha] at hfa; cases hfa
    · rw [ha] at hea; cases hea
  · rcases get_appB he with q | ⟨q, rfl⟩
    · obtain ⟨h1, i, f, h2, h3, h4⟩ := h.ans t e q hea
      exact ⟨h1, i, f, h2, get_oldB h3, h4⟩
    · obtain ⟨i, hi⟩ := List.mem_iff_getElem?.1 ho
      exact ⟨he0, i, o, by rw [q]; exact (List.getElem?_eq_some_iff.1 hi).1, get_oldB hi, hoa, hid.symm⟩
  · rcases List.mem_append.1 he with q | q
    · exact h.ok e q
    · rw [List.mem_singleton.1 q]; exact hok
theorem parts_bB {W A L B : Int} {D : ByteArray} {k : Nat} {p : Pt} (h : (evParts W A L D B)[k]? = some p) : p.b = (((A / 32).toNat + k : Nat) : Int) ∧ p.wr = !(W == 0) ∧ p.d = partD W D k ∧ k < (askSz W L D / 32).toNat ∧ 0 ≤ W ∧ W ≤ 2 := by
  unfold evParts at h
  split at h
  · rename_i hm
    have hW : 0 ≤ W ∧ W ≤ 2 := hm.2.elim (fun h => absurd h hm.1) fun h => ⟨h.1, h.2.1⟩
    rw [List.getElem?_map] at h
    obtain ⟨j, hj, rfl⟩ := Option.map_eq_some_iff.1 h
    obtain ⟨hl, e⟩ := List.getElem?_eq_some_iff.1 hj
    simp at e hl
    subst e
    exact ⟨rfl, rfl, rfl, by omega, hW⟩
  · cases h
/-- a use, and where it comes from -/
structure Shape (E : List Ev) (u : Us) (i : Nat) (e : Ev) (k : Nat) (p : Pt) : Prop where
  at_ : E[i]? = some e
  ask : e.ans = false
  part : (e.parts 1)[k]? = some p
  b : p.b = 0
  from_ : u.from_ = i
  wr : u.wr = p.wr
  val : u.wr = true → u.val = p.d
  vsz : u.val.size ≤ maxLen
  til : (u.wr = true ∧ u.til = NV) ∨ ∃ (t : Nat) (x : Ev), u.til = t ∧ i < t ∧ E[t]? = some x ∧ x.ans = true
theorem use_shape {E : List Ev} {n : Nat} (h : EvJ E n) {u : Us} (hu : u ∈ usesN E 1 0 E.length) : ∃ i e k p, Shape E u i e k p := by
  unfold usesN at hu
  obtain ⟨i, hi, hu⟩ := List.mem_flatMap.1 hu
  rw [List.mem_range] at hi
  have he := List.getElem?_eq_getElem hi
  unfold usesAt at hu
  rw [he] at hu
  have hok := h.ok _ (List.getElem_mem hi)
  generalize E[i] = e at hu he hok
  simp only at hu
  split at hu
  · simp at hu
  rename_i hea
  have hea : e.ans = false := by simpa using hea
  unfold useEv at hu
  simp only [List.mem_flatMap, List.mem_range] at hu
  obtain ⟨k, hk, hu⟩ := hu
  cases hp : (e.parts 1)[k]? with
  | none => rw [hp] at hu; simp at hu
  | some p =>
    rw [hp] at hu
    simp only at hu
    have hpb := parts_bB hp
    have hd : p.d.size ≤ maxLen := by
      rw [hpb.2.2.1]
      unfold partD
      split
      · have h1 : (e.data.extract (32 * k) (32 * k + 32)).size ≤ e.data.size := by rw [ByteArray.size_extract]; omega
        have h2 := hok.data
        omega
      · split
        · rw [zeroL_size]; decide
        · exact Nat.zero_le _
    unfold usePt at hu
    split at hu
    · rename_i hb
      split at hu
      · rename_i hw
        rw [List.mem_singleton.1 hu]
        unfold useS at hw ⊢
        cases ht : told E e.id with
        | none =>
          rw [ht] at hw
          refine ⟨i, e, k, p, ⟨he, hea, hp, hb, rfl, rfl, fun _ => rfl, hd, .inl ⟨hw, rfl⟩⟩⟩
        | some t =>
          rw [ht] at hw
          obtain ⟨x, hx, hxa, hxi⟩ := told_some ht
          obtain ⟨h0, i', f, h1, h2, h3, h4⟩ := h.ans t x hx hxa
          have hii := h.uq i' i f e h2 he h3 hea (h4.trans hxi)
          subst hii
          simp only [hx, h0, if_true] at hw ⊢
          cases hpw : p.wr
          · simp only [hpw] at hw ⊢
            refine ⟨i', e, k, p, ⟨he, hea, hp, hb, rfl, hpw.symm, fun q => (by cases q), ?_, .inr ⟨t, x, rfl, h1, hx, hxa⟩⟩⟩
            have h5 : (x.txt.extract (min (32 * k) x.txt.size) (min (min (32 * k) x.txt.size + 32) x.txt.size)).size ≤ x.txt.size := by rw [ByteArray.size_extract]; omega
            have h6 := (h.ok _ (List.mem_of_getElem? hx)).txt
            exact Nat.le_trans h5 h6
          · simp only [hpw, if_true] at hw ⊢
            exact ⟨i', e, k, p, ⟨he, hea, hp, hb, rfl, hpw.symm, fun _ => rfl, hd, .inr ⟨t, x, rfl, h1, hx, hxa⟩⟩⟩
      · simp at hu
    · simp at hu
/-- a writing's mark -/
theorem shape_mark {E : List Ev} {n : Nat} (h : EvJ E n) {u : Us} {i k : Nat} {e : Ev} {p : Pt} (hs : Shape E u i e k p) (hw : u.wr = true) : ∃ d : UInt8, u.val.data.toList[1]? = some d ∧ (d.toNat : Int) = 48 + e.id % 64 := by
  obtain ⟨e1, e2, e3, e4, e5, e6⟩ := parts_bB hs.part
  have hj := h.ask i e hs.at_ hs.ask
  have hpw : p.wr = true := hs.wr.symm.trans hw
  have hW : e.what = 1 := by
    have h0 : e.what ≠ 0 := fun h => by rw [hpw, h] at e2; cases e2
    have := hj.2.2.1
    omega
  obtain ⟨m, hD⟩ := hj.2.2.2 hW
  have hk : k < m := by
    rw [askSz, if_pos hW] at e4
    have := hD.1
    omega
  obtain ⟨c, d, h1, h2, h3, h4⟩ := hD.2 k hk
  refine ⟨d, ?_, h4⟩
  rw [hs.val hw, e3, partD, if_pos hW, Lib.extract_data, List.getElem?_take, if_pos (by omega), List.getElem?_drop]
  exact h3
theorem useevB_one (E : List Ev) (o : Option Nat) (b : Int) (i : Nat) (W A L : Int) (D : ByteArray) : ∀ n, (useEv E o b i (evParts W A L D 1) n).length ≤ 1 ∧ ((useEv E o b i (evParts W A L D 1) n).length = 1 → ∃ k p, k < n ∧ (evParts W A L D 1)[k]? = some p ∧ p.b = b)
  | 0 => by simp [useEv]
  | n + 1 => by
    obtain ⟨h1, h2⟩ := useevB_one E o b i W A L D n
    cases hp : (evParts W A L D 1)[n]? with
    | none =>
      have e : useEv E o b i (evParts W A L D 1) (n + 1) = useEv E o b i (evParts W A L D 1) n := by
        unfold useEv
        rw [List.range_succ, List.flatMap_append]
        simp [hp]
      rw [e]
      exact ⟨h1, fun hh => let ⟨k, p, q1, q2, q3⟩ := h2 hh; ⟨k, p, by omega, q2, q3⟩⟩
    | some p =>
      rw [useev_next hp, List.length_append]
      by_cases hb : p.b = b
      · have h0 : (useEv E o b i (evParts W A L D 1) n).length = 0 := by
          rcases Nat.lt_or_ge 0 (useEv E o b i (evParts W A L D 1) n).length with q | q
          · obtain ⟨k, p2, q1, q2, q3⟩ := h2 (by omega)
            have e1 := (parts_bB hp).1
            have e2 := (parts_bB q2).1
            omega
          · omega
        have := usept_len E o b i n p
        exact ⟨by omega, fun _ => ⟨n, p, by omega, hp, hb⟩⟩
      · have e : usePt E o b i n p = [] := by unfold usePt; rw [if_neg hb]
        rw [e]
        exact ⟨by simpa using h1, fun hh => let ⟨k, p, q1, q2, q3⟩ := h2 (by simpa using hh); ⟨k, p, by omega, q2, q3⟩⟩
theorem usesat_from {E : List Ev} {i : Nat} {u : Us} (hu : u ∈ usesAt E 1 0 i) : u.from_ = i := by
  unfold usesAt at hu
  split at hu
  · split at hu
    · simp at hu
    · unfold useEv at hu
      simp only [List.mem_flatMap, List.mem_range] at hu
      obtain ⟨k, hk, hu⟩ := hu
      split at hu
      · unfold usePt at hu
        split at hu
        · split at hu
          · rw [List.mem_singleton.1 hu]
          · simp at hu
        · simp at hu
      · simp at hu
  · simp at hu
theorem usesB_rise (E : List Ev) : ∀ n, (usesN E 1 0 n).Pairwise (fun u v => u.from_ < v.from_) ∧ ∀ u ∈ usesN E 1 0 n, u.from_ < n
  | 0 => by simp [usesN]
  | n + 1 => by
    obtain ⟨h1, h2⟩ := usesB_rise E n
    have hat : (usesAt E 1 0 n).length ≤ 1 := by
      unfold usesAt
      split
      · split
        · simp
        · exact (useevB_one E _ 0 n _ _ _ _ _).1
      · simp
    rw [uses_next]
    refine ⟨List.pairwise_append.2 ⟨h1, ?_, fun u hu v hv => ?_⟩, fun u hu => ?_⟩
    · match hl : usesAt E 1 0 n, hat with
      | [], _ => simp
      | [u], _ => simp
    · rw [usesat_from hv]; exact h2 u hu
    · rcases List.mem_append.1 hu with q | q
      · have := h2 u q; omega
      · rw [usesat_from q]; omega
/-- what the uses of such a history are like -/
theorem uses_hu {E : List Ev} {n : Nat} (h : EvJ E n) (hn : n ≤ 14) (hE : E.length ≤ 14) : HU ((usesN E 1 0 E.length).map toUS) ∧ (usesN E 1 0 E.length).Pairwise (fun a b => a.wr = true → b.wr = true → a.val ≠ b.val) ∧ (∀ u ∈ usesN E 1 0 E.length, u.wr = true → u.val ≠ zeroL 32) ∧ ∀ u ∈ usesN E 1 0 E.length, UsOk u := by
  obtain ⟨hr, -⟩ := usesB_rise E E.length
  generalize hus : usesN E 1 0 E.length = us at hr ⊢
  have hsh : ∀ u ∈ us, ∃ i e k p, Shape E u i e k p := fun u hu => use_shape h (by rw [hus]; exact hu)
  have hlen : ∀ {t : Nat} {x : Ev}, E[t]? = some x → t < 14 := fun h => by have := (List.getElem?_eq_some_iff.1 h).1; omega
  have heq : ∀ u ∈ us, ∀ v ∈ us, u.wr = true → v.wr = true → u.val = v.val → u.from_ = v.from_ := fun u hu v hv hw1 hw2 e => by
    obtain ⟨i, e1, k, p, s1⟩ := hsh u hu
    obtain ⟨j, e2, l, q, s2⟩ := hsh v hv
    obtain ⟨d1, m1, m2⟩ := shape_mark h s1 hw1
    obtain ⟨d2, m3, m4⟩ := shape_mark h s2 hw2
    rw [e, m3] at m1
    cases m1
    have a1 := h.ask i e1 s1.at_ s1.ask
    have a2 := h.ask j e2 s2.at_ s2.ask
    have := h.uq i j e1 e2 s1.at_ s2.at_ s1.ask s2.ask (by omega)
    rw [s1.from_, s2.from_, this]
  have hpw : us.Pairwise (fun a b => a.wr = true → b.wr = true → a.val ≠ b.val) := List.Pairwise.imp_of_mem (fun {a b} ha hb hab hw1 hw2 e => by have := heq a ha b hb hw1 hw2 e; omega) hr
  have hlt : ∀ u ∈ us, 0 ≤ u.from_ ∧ u.from_ < u.til ∧ u.til ≤ 1073741824 ∧ u.from_ < 14 := fun u hu => by
    obtain ⟨i, e1, k, p, s1⟩ := hsh u hu
    have hi := hlen s1.at_
    rw [s1.from_]
    rcases s1.til with ⟨-, q⟩ | ⟨t, x, q, q2, q3, -⟩
    · have : NV = 1073741824 := rfl
      omega
    · have := hlen q3
      omega
  refine ⟨⟨fun i j u v hu hv hw1 hw2 e => ?_, fun u hu => ?_, fun u hu hw => ?_, fun u hu v hv => ?_⟩, hpw, fun u hu hw => ?_, fun u hu => ?_⟩
  · rw [List.getElem?_map] at hu hv
    obtain ⟨u', hu', rfl⟩ := Option.map_eq_some_iff.1 hu
    obtain ⟨v', hv', rfl⟩ := Option.map_eq_some_iff.1 hv
    have h1 := heq u' (List.mem_of_getElem? hu') v' (List.mem_of_getElem? hv') hw1 hw2 e
    obtain ⟨li, ei⟩ := List.getElem?_eq_some_iff.1 hu'
    obtain ⟨lj, ej⟩ := List.getElem?_eq_some_iff.1 hv'
    rcases Nat.lt_trichotomy i j with q | q | q
    · have := List.pairwise_iff_getElem.1 hr i j li lj q
      rw [ei, ej] at this
      omega
    · exact q
    · have := List.pairwise_iff_getElem.1 hr j i lj li q
      rw [ei, ej] at this
      omega
  · obtain ⟨u', hu', rfl⟩ := List.mem_map.1 hu
    have := hlt u' hu'
    exact ⟨this.1, this.2.1, this.2.2.1⟩
  · obtain ⟨u', hu', rfl⟩ := List.mem_map.1 hu
    obtain ⟨i, e1, k, p, s1⟩ := hsh u' hu'
    have hw' : u'.wr = false := hw
    rcases s1.til with ⟨q, -⟩ | ⟨t, x, q, q2, q3, -⟩
    · rw [hw'] at q; cases q
    · have := hlen q3
      show u'.til < 1073741824
      omega
  · obtain ⟨u', hu', rfl⟩ := List.mem_map.1 hu
    obtain ⟨v', hv', rfl⟩ := List.mem_map.1 hv
    obtain ⟨i, e1, k, p, s1⟩ := hsh u' hu'
    obtain ⟨j, e2, l, r, s2⟩ := hsh v' hv'
    show u'.til ≠ v'.from_
    rcases s1.til with ⟨-, q⟩ | ⟨t, x, q, q2, q3, q4⟩
    · have := (hlt v' hv').2.2.2
      have : NV = 1073741824 := rfl
      omega
    · intro e
      rw [q, s2.from_] at e
      have : t = j := by omega
      subst this
      rw [s2.at_] at q3
      obtain rfl := Option.some.inj q3
      have := s2.ask
      rw [q4] at this
      cases this
  · obtain ⟨i, e1, k, p, s1⟩ := hsh u hu
    obtain ⟨d1, m1, m2⟩ := shape_mark h s1 hw
    intro e
    rw [e] at m1
    have e0 : (zeroL 32).data.toList[1]? = some 0 := rfl
    rw [e0] at m1
    cases m1
    have : ((0 : UInt8).toNat : Int) = 0 := rfl
    have a1 := h.ask i e1 s1.at_ s1.ask
    omega
  · obtain ⟨i, e1, k, p, s1⟩ := hsh u hu
    have := hlt u hu
    have : NV = 1073741824 := rfl
    exact ⟨s1.vsz, by omega, by omega⟩
theorem uCs_uC : ∀ us : List Us, uCs (us.map toUS) = uC us
  | [] => rfl
  | u :: us => by
    show uC40 (toUS u) ++ uCs (us.map toUS) = Us.c u ++ uC us
    rw [uCs_uC us]
    rfl
end Go.Proofs.Ytodjlaapmbnahaa
