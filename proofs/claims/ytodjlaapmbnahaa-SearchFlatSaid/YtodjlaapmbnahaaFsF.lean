/-
  Which uses fit: a certificate of intervals. Of no program but for the names.
-/
import Derived.Test.YtodjlaapmbnahaaFsE
namespace Go.Proofs.Ytodjlaapmbnahaa
open Go.RowKit
set_option linter.unusedVariables false
set_option linter.unusedSimpArgs false

theorem clash_no {s o : Sp} {ls hs lo ho : Int} (h1 : ls ≤ s.e) (h2 : s.b < hs) (h3 : lo ≤ o.e) (h4 : o.b < ho) (h : hs ≤ lo ∨ ho ≤ ls) : clashB s o = false := by
  unfold clashB fwd
  by_cases a : s.e < s.b
  · by_cases b : o.e < o.b
    · have : ¬ (max s.e o.e < min s.b o.b) := by omega
      simp [a, b, this]
    · simp only [decide_eq_true a, decide_eq_false b, Bool.true_and, Bool.false_eq_true, if_false]
      by_cases c : s.e < o.b
      · by_cases d : o.b < s.b
        · by_cases e : s.e < o.e
          · by_cases f : o.e < s.b
            · omega
            · simp [f]
          · simp [e]
        · simp [d]
      · simp [c]
  · simp [a]
theorem clash_far {s o : Sp} (h1 : ¬ s.e < s.b) : clashB s o = false := by unfold clashB fwd; simp [h1]
def newS (v : ByteArray) : Sp := ⟨v, NV, -1, NV⟩
theorem step_spec {L : List Sp} {u : Us} (hnd : (L.map Sp.val).Nodup) : ∃ s : Sp, ((s ∈ L) ∨ (s = newS u.val ∧ ∀ t ∈ L, t.val ≠ u.val)) ∧ s.val = u.val ∧ isW (withV L u.val) (ixV L u.val) = decide (s.wr ≠ NV) ∧
    (∀ t, t ∈ (withV L u.val).modify (ixV L u.val) (fun s => s.upd u) → t = s.upd u ∨ (t ∈ L ∧ t.val ≠ u.val)) ∧ s.upd u ∈ (withV L u.val).modify (ixV L u.val) (fun s => s.upd u) ∧
    (∀ t ∈ L, t.val ≠ u.val → t ∈ (withV L u.val).modify (ixV L u.val) (fun s => s.upd u)) ∧ (((withV L u.val).modify (ixV L u.val) (fun s => s.upd u)).map Sp.val).Nodup ∧
    ∃ r, ((withV L u.val).modify (ixV L u.val) (fun s => s.upd u)).map Sp.val = L.map Sp.val ++ r := by
  have hvm := vals_modify (withV L u.val) (ixV L u.val) u
  have key : ∀ (l : List Sp) (i : Nat) (s : Sp), l[i]? = some s → s.val = u.val → (l.map Sp.val).Nodup → (∀ t, t ∈ l.modify i (fun s => s.upd u) → t = s.upd u ∨ (t ∈ l ∧ t.val ≠ u.val)) ∧ s.upd u ∈ l.modify i (fun s => s.upd u) ∧ ∀ t ∈ l, t.val ≠ u.val → t ∈ l.modify i (fun s => s.upd u) := by
    intro l i s hs hv hn
    have hne : ∀ j t, j ≠ i → l[j]? = some t → t.val ≠ u.val := by
      intro j t hj ht e
      have h1 : (l.map Sp.val)[j]? = some u.val := by rw [List.getElem?_map, ht]; exact congrArg some e
      have h2 : (l.map Sp.val)[i]? = some u.val := by rw [List.getElem?_map, hs]; exact congrArg some hv
      have h3 := (List.getElem?_inj (List.getElem?_eq_some_iff.1 h1).1 hn).1 (h1.trans h2.symm)
      exact hj h3
    refine ⟨fun t ht => ?_, ?_, fun t ht hne' => ?_⟩
    · obtain ⟨j, hj⟩ := List.mem_iff_getElem?.1 ht
      rw [List.getElem?_modify] at hj
      by_cases hji : i = j
      · subst hji
        rw [hs] at hj
        simp at hj
        exact .inl hj.symm
      · simp [hji] at hj
        exact .inr ⟨List.mem_of_getElem? hj, hne j t (Ne.symm hji) hj⟩
    · refine List.mem_iff_getElem?.2 ⟨i, ?_⟩
      rw [List.getElem?_modify, hs]
      simp
    · obtain ⟨j, hj⟩ := List.mem_iff_getElem?.1 ht
      refine List.mem_iff_getElem?.2 ⟨j, ?_⟩
      rw [List.getElem?_modify]
      by_cases hji : i = j
      · subst hji
        rw [hs] at hj
        cases hj
        exact absurd hv hne'
      · simp [hji, hj]
  cases h : spIx L u.val with
  | some i =>
    have e1 : withV L u.val = L := by unfold withV; rw [h]
    have e2 : ixV L u.val = i := by unfold ixV; rw [h]
    obtain ⟨hi, hv, -⟩ := List.findIdx?_eq_some_iff_getElem.1 h
    have hv' : L[i].val = u.val := by simpa using hv
    have hs : L[i]? = some L[i] := List.getElem?_eq_getElem hi
    rw [e1, e2] at hvm ⊢
    obtain ⟨k1, k2, k3⟩ := key L i L[i] hs hv' hnd
    exact ⟨L[i], .inl (List.getElem_mem hi), hv', by unfold isW; rw [hs], k1, k2, k3, by rw [hvm]; exact hnd, [], by rw [hvm, List.append_nil]⟩
  | none =>
    have e1 : withV L u.val = L ++ [newS u.val] := by unfold withV; rw [h]; rfl
    have e2 : ixV L u.val = L.length := by unfold ixV; rw [h]
    have hno : ∀ t ∈ L, t.val ≠ u.val := by
      intro t ht e
      have := List.findIdx?_eq_none_iff.1 h t ht
      simp [e] at this
    have hs : (L ++ [newS u.val])[L.length]? = some (newS u.val) := by simp
    have hnd2 : ((L ++ [newS u.val]).map Sp.val).Nodup := by
      rw [List.map_append]
      refine List.nodup_append.2 ⟨hnd, by simp, ?_⟩
      intro a ha b hb
      obtain ⟨t, ht, rfl⟩ := List.mem_map.1 ha
      simp [newS] at hb
      rw [hb]
      exact hno t ht
    rw [e1, e2] at hvm ⊢
    obtain ⟨k1, k2, k3⟩ := key _ L.length (newS u.val) hs rfl hnd2
    refine ⟨newS u.val, .inr ⟨rfl, hno⟩, rfl, by unfold isW; rw [hs], fun t ht => ?_, k2, fun t ht hne => k3 t (List.mem_append_left _ ht) hne, by rw [hvm]; exact hnd2, [u.val], by rw [hvm, List.map_append]; rfl⟩
    rcases k1 t ht with q | ⟨q1, q2⟩
    · exact .inl q
    · rcases List.mem_append.1 q1 with q | q
      · exact .inr ⟨q, q2⟩
      · rw [List.mem_singleton.1 q] at q2
        exact absurd rfl q2
/-- intervals in which values were there -/
structure Cert (us : List Us) (I : ByteArray → Int × Int) : Prop where
  z : (I (zeroL 32)).1 ≤ -1 ∧ -1 < (I (zeroL 32)).2
  u : ∀ u ∈ us, (I u.val).1 ≤ u.til ∧ u.from_ < (I u.val).2 ∧ 0 ≤ u.from_ ∧ u.from_ < NV
  lt : ∀ v, (I v).1 ≤ NV
  ord : ∀ v1 v2, v1 ≠ v2 → (v1 = zeroL 32 ∨ ∃ u ∈ us, u.val = v1) → (v2 = zeroL 32 ∨ ∃ u ∈ us, u.val = v2) → (I v1).2 ≤ (I v2).1 ∨ (I v2).2 ≤ (I v1).1 ∨ ((I v1).1 = NV ∧ (I v2).1 = NV)
  once : us.Pairwise fun a b => a.wr = true → b.wr = true → a.val ≠ b.val
  nz : ∀ u ∈ us, u.wr = true → u.val ≠ zeroL 32
  has : ∀ u ∈ us, u.val ≠ zeroL 32 → ∃ x ∈ us, x.wr = true ∧ x.val = u.val ∧ x.from_ < (I u.val).1
structure SInv (I : ByteArray → Int × Int) (pre : List Us) (L : List Sp) : Prop where
  head : ∃ r, L.map Sp.val = zeroL 32 :: r
  nd : (L.map Sp.val).Nodup
  bd : ∀ s ∈ L, (I s.val).1 ≤ s.e ∧ s.b < (I s.val).2 ∧ s.b < NV
  vd : ∀ s ∈ L, s.val = zeroL 32 ∨ ∃ u ∈ pre, u.val = s.val
  wr : ∀ s ∈ L, s.val = zeroL 32 ∨ (s.wr ≠ NV → ∃ x ∈ pre, x.wr = true ∧ x.val = s.val ∧ s.wr = x.from_)
  ws : ∀ x ∈ pre, x.wr = true → ∀ s ∈ L, s.val = x.val → s.wr = x.from_
  all : ∀ x ∈ pre, ∃ s ∈ L, s.val = x.val
theorem sinv_step {I : ByteArray → Int × Int} {us pre post : List Us} {u : Us} {L : List Sp} (hc : Cert us I) (he : us = pre ++ u :: post) (h : SInv I pre L) : ∃ L', spStep L u = some L' ∧ SInv I (pre ++ [u]) L' := by
  have hu : u ∈ us := by rw [he]; simp
  obtain ⟨s, hs, hsv, hw, k1, k2, k3, k4, r, k5⟩ := step_spec (u := u) h.nd
  have hpre : ∀ x ∈ pre, x ∈ us := fun x hx => by rw [he]; simp [hx]
  have honce : u.wr = true → ∀ x ∈ pre, x.wr = true → x.val ≠ u.val := fun hu1 x hx hx1 => by
    have := hc.once
    rw [he] at this
    exact (List.pairwise_append.1 this).2.2 x hx u (List.mem_cons_self ..) hx1 hu1
  have hnw : u.wr = true → s.wr = NV := fun hu1 => by
    rcases hs with hs | ⟨hs, -⟩
    · rcases h.wr s hs with q | q
      · exact absurd (hsv.symm.trans q) (hc.nz u hu hu1)
      · refine Classical.byContradiction fun hn => ?_
        obtain ⟨x, hx, hx1, hx2, -⟩ := q hn
        exact honce hu1 x hx hx1 (hx2.trans hsv)
    · rw [hs]; rfl
  obtain ⟨c1, c2, c3, c4⟩ := hc.u u hu
  have hbs : (I u.val).1 ≤ s.e ∧ s.b < (I u.val).2 ∧ s.b < NV := by
    rcases hs with hs | ⟨hs, -⟩
    · have := h.bd s hs
      rw [hsv] at this
      exact this
    · rw [hs]
      exact ⟨hc.lt _, by show (-1 : Int) < _; omega, by show (-1 : Int) < NV; decide⟩
  refine ⟨(withV L u.val).modify (ixV L u.val) (fun s => s.upd u), ?_, ?_⟩
  · unfold spStep
    rw [hw]
    cases hu1 : u.wr
    · rfl
    · rw [hnw hu1]; simp
  · have hsu : (s.upd u).val = u.val := hsv
    refine ⟨?_, k4, fun t ht => ?_, fun t ht => ?_, fun t ht => ?_, fun x hx hx1 t ht htv => ?_, fun x hx => ?_⟩
    · obtain ⟨r0, hr0⟩ := h.head
      exact ⟨r0 ++ r, by rw [k5, hr0]; rfl⟩
    · rcases k1 t ht with rfl | ⟨q, -⟩
      · rw [hsu]
        unfold Sp.upd
        refine ⟨?_, ?_, ?_⟩
        · show _ ≤ min s.e u.til; omega
        · show max s.b u.from_ < _; omega
        · show max s.b u.from_ < _; omega
      · exact h.bd t q
    · rcases k1 t ht with rfl | ⟨q, -⟩
      · exact .inr ⟨u, by simp, hsu.symm⟩
      · rcases h.vd t q with q2 | ⟨x, hx, hx2⟩
        · exact .inl q2
        · exact .inr ⟨x, List.mem_append_left _ hx, hx2⟩
    · rcases k1 t ht with rfl | ⟨q, -⟩
      · by_cases hz : u.val = zeroL 32
        · exact .inl (hsu.trans hz)
        · refine .inr fun hn => ?_
          cases hu1 : u.wr
          · have e : (s.upd u).wr = s.wr := by unfold Sp.upd; rw [hu1]; rfl
            rw [e] at hn ⊢
            rcases hs with hs | ⟨hs, -⟩
            · rcases h.wr s hs with q | q
              · exact absurd (hsv.symm.trans q) hz
              · obtain ⟨x, hx, hx1, hx2, hx3⟩ := q hn
                exact ⟨x, List.mem_append_left _ hx, hx1, hx2, hx3⟩
            · rw [hs] at hn; exact absurd rfl hn
          · have e : (s.upd u).wr = u.from_ := by unfold Sp.upd; rw [hu1]; rfl
            exact ⟨u, by simp, hu1, hsu.symm, e⟩
      · rcases h.wr t q with q2 | q2
        · exact .inl q2
        · refine .inr fun hn => ?_
          obtain ⟨x, hx, hx1, hx2, hx3⟩ := q2 hn
          exact ⟨x, List.mem_append_left _ hx, hx1, hx2, hx3⟩
    · rcases List.mem_append.1 hx with q | q
      · rcases k1 t ht with rfl | ⟨q2, q3⟩
        · cases hu1 : u.wr
          · have e : (s.upd u).wr = s.wr := by unfold Sp.upd; rw [hu1]; rfl
            rw [e]
            rcases hs with hs | ⟨hs, hno⟩
            · exact h.ws x q hx1 s hs (hsv.trans (hsu.symm.trans htv))
            · obtain ⟨t2, ht2, ht3⟩ := h.all x q
              exact absurd (ht3.trans (htv.symm.trans hsu)) (hno t2 ht2)
          · exact absurd (htv.symm.trans hsu) (honce hu1 x q hx1)
        · exact h.ws x q hx1 t q2 htv
      · obtain rfl := List.mem_singleton.1 q
        rcases k1 t ht with rfl | ⟨q2, q3⟩
        · unfold Sp.upd; rw [hx1]; rfl
        · exact absurd htv q3
    · rcases List.mem_append.1 hx with q | q
      · obtain ⟨t, ht, htv⟩ := h.all x q
        by_cases hxu : t.val = u.val
        · exact ⟨_, k2, hsu.trans (hxu.symm.trans htv)⟩
        · exact ⟨t, k3 t ht hxu, htv⟩
      · obtain rfl := List.mem_singleton.1 q
        exact ⟨_, k2, hsu⟩
theorem sinv_all {I : ByteArray → Int × Int} {us : List Us} (hc : Cert us I) : ∀ (post pre : List Us) (L : List Sp), us = pre ++ post → SInv I pre L → ∃ L', spansL L post = some L' ∧ SInv I us L'
  | [], pre, L, he, h => ⟨L, rfl, by rw [he, List.append_nil]; exact h⟩
  | u :: post, pre, L, he, h => by
    obtain ⟨L1, h1, h2⟩ := sinv_step hc he h
    obtain ⟨L2, h3, h4⟩ := sinv_all hc post (pre ++ [u]) L1 (by rw [he]; simp) h2
    exact ⟨L2, by rw [spansL, h1]; exact h3, h4⟩
/-- what has such intervals fits -/
theorem cert_fits {I : ByteArray → Int × Int} {us : List Us} (hc : Cert us I) : ∃ L, spansL initS us = some L ∧ 1 ≤ L.length ∧ ∀ i, FitAt L i := by
  have h0 : SInv I [] initS := by
    refine ⟨⟨[], rfl⟩, by simp [initS], fun s hs => ?_, fun s hs => .inl ?_, fun s hs => .inl ?_, fun x hx => by simp at hx, fun x hx => by simp at hx⟩
    · obtain rfl := List.mem_singleton.1 hs
      exact ⟨hc.z.1, hc.z.2, by decide⟩
    · rw [List.mem_singleton.1 hs]
    · rw [List.mem_singleton.1 hs]
  obtain ⟨L, h1, h2⟩ := sinv_all hc us [] initS rfl h0
  obtain ⟨r, hr⟩ := h2.head
  refine ⟨L, h1, ?_, fun i s hs => ⟨?_, fun k o hk ho => ?_⟩⟩
  · have := congrArg List.length hr
    rw [List.length_map] at this
    simp at this
    omega
  · have hm := List.mem_of_getElem? hs
    by_cases hz : s.val = zeroL 32
    · left
      have e1 : (L.map Sp.val)[i]? = some (zeroL 32) := by rw [List.getElem?_map, hs, ← hz]; rfl
      have e2 : (L.map Sp.val)[0]? = some (zeroL 32) := by rw [hr]; rfl
      exact (List.getElem?_inj (List.getElem?_eq_some_iff.1 e1).1 h2.nd).1 (e1.trans e2.symm)
    · right
      obtain ⟨u, hu, huv⟩ := (h2.vd s hm).resolve_left hz
      obtain ⟨x, hx, hx1, hx2, hx3⟩ := hc.has u hu (by rw [huv]; exact hz)
      have := h2.ws x hx hx1 s hm (by rw [hx2, huv])
      have hb := (h2.bd s hm).1
      rw [huv] at hx3
      omega
  · have hm := List.mem_of_getElem? hs
    have hmo := List.mem_of_getElem? ho
    have hne : s.val ≠ o.val := by
      intro e
      have e1 : (L.map Sp.val)[i]? = some s.val := by rw [List.getElem?_map, hs]; rfl
      have e2 : (L.map Sp.val)[k]? = some s.val := by rw [List.getElem?_map, ho, e]; rfl
      have := (List.getElem?_inj (List.getElem?_eq_some_iff.1 e1).1 h2.nd).1 (e1.trans e2.symm)
      omega
    obtain ⟨a1, a2, a3⟩ := h2.bd s hm
    obtain ⟨b1, b2, b3⟩ := h2.bd o hmo
    rcases hc.ord s.val o.val hne (h2.vd s hm) (h2.vd o hmo) with q | q | ⟨q1, q2⟩
    · exact ⟨clash_no a1 a2 b1 b2 (.inl q), clash_no b1 b2 a1 a2 (.inr q)⟩
    · exact ⟨clash_no a1 a2 b1 b2 (.inr q), clash_no b1 b2 a1 a2 (.inl q)⟩
    · exact ⟨clash_far (by omega), clash_far (by omega)⟩
end Go.Proofs.Ytodjlaapmbnahaa
