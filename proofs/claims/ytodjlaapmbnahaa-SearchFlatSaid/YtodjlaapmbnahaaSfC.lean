/-
  What the spans of uses are, exactly; the spans fit just if nothing goes both ways (pure).
-/
import Derived.Test.YtodjlaapmbnahaaSfA
namespace Go.Proofs.Ytodjlaapmbnahaa
open Go.RowKit
set_option linter.unusedVariables false
set_option linter.unusedSimpArgs false

def toUS (u : Us) : US := ⟨u.wr, u.val, u.from_, u.til⟩
structure SX (pre : List Us) (L : List Sp) : Prop where
  head : ∃ r, L.map Sp.val = zeroL 32 :: r
  nd : (L.map Sp.val).Nodup
  z : ∀ s ∈ L, s.val = zeroL 32 → s.e ≤ -1
  lo : ∀ s ∈ L, ∀ u ∈ pre, u.val = s.val → s.e ≤ u.til ∧ u.from_ ≤ s.b
  ex : ∀ s ∈ L, s.val = zeroL 32 ∨ s.e = NV ∨ ∃ u ∈ pre, u.val = s.val ∧ u.til = s.e
  bx : ∀ s ∈ L, s.b = -1 ∨ ∃ u ∈ pre, u.val = s.val ∧ u.from_ = s.b
  wx : ∀ s ∈ L, s.val = zeroL 32 ∨ s.wr = NV ∨ ∃ x ∈ pre, x.wr = true ∧ x.val = s.val ∧ s.wr = x.from_
  ws : ∀ x ∈ pre, x.wr = true → ∀ s ∈ L, s.val = x.val → s.wr = x.from_
  all : ∀ x ∈ pre, ∃ s ∈ L, s.val = x.val
  vd : ∀ s ∈ L, s.val = zeroL 32 ∨ ∃ u ∈ pre, u.val = s.val
theorem sx_step {pre : List Us} {u : Us} {L : List Sp} (hn : ∀ x ∈ pre, x.wr = true → u.wr = true → x.val ≠ u.val) (hz : u.wr = true → u.val ≠ zeroL 32) (h : SX pre L) : ∃ L', spStep L u = some L' ∧ SX (pre ++ [u]) L' := by
  obtain ⟨s, hs, hsv, hw, k1, k2, k3, k4, r, k5⟩ := step_spec (u := u) h.nd
  have hnw : u.wr = true → s.wr = NV := fun hu1 => by
    rcases hs with hs | ⟨hs, -⟩
    · rcases h.wx s hs with q | q | ⟨x, hx, hx1, hx2, -⟩
      · exact absurd (hsv.symm.trans q) (hz hu1)
      · exact q
      · exact absurd (hx2.trans hsv) (hn x hx hx1 hu1)
    · rw [hs]; rfl
  have hsu : (s.upd u).val = u.val := hsv
  have hue : (s.upd u).e = min s.e u.til := rfl
  have hub : (s.upd u).b = max s.b u.from_ := rfl
  refine ⟨(withV L u.val).modify (ixV L u.val) (fun s => s.upd u), ?_, ?_⟩
  · unfold spStep
    rw [hw]
    cases hu1 : u.wr
    · rfl
    · rw [hnw hu1]; simp
  · refine ⟨?_, k4, fun t ht htz => ?_, fun t ht x hx hxv => ?_, fun t ht => ?_, fun t ht => ?_, fun t ht => ?_, fun x hx hx1 t ht htv => ?_, fun x hx => ?_, fun t ht => ?_⟩
    · obtain ⟨r0, hr0⟩ := h.head
      exact ⟨r0 ++ r, by rw [k5, hr0]; rfl⟩
    · rcases k1 t ht with rfl | ⟨q, -⟩
      · rw [hue]
        rcases hs with hs | ⟨hs, hno⟩
        · have := h.z s hs (hsv.trans (hsu.symm.trans htz))
          omega
        · obtain ⟨r0, hr0⟩ := h.head
          have hm : zeroL 32 ∈ L.map Sp.val := by rw [hr0]; exact List.mem_cons_self ..
          obtain ⟨t0, ht0, e0⟩ := List.mem_map.1 hm
          exact absurd (e0.trans (htz.symm.trans hsu)) (hno t0 ht0)
      · exact h.z t q htz
    · rcases k1 t ht with rfl | ⟨q, q2⟩
      · rw [hue, hub]
        rcases List.mem_append.1 hx with g | g
        · rcases hs with hs | ⟨hs, hno⟩
          · have := h.lo s hs x g (hxv.trans (hsu.trans hsv.symm))
            omega
          · obtain ⟨t0, ht0, e0⟩ := h.all x g
            exact absurd (e0.trans (hxv.trans hsu)) (hno t0 ht0)
        · rw [List.mem_singleton.1 g]
          omega
      · rcases List.mem_append.1 hx with g | g
        · exact h.lo t q x g hxv
        · rw [List.mem_singleton.1 g] at hxv
          exact absurd hxv.symm q2
    · rcases k1 t ht with rfl | ⟨q, q2⟩
      · rw [hsu, hue]
        by_cases hm : u.til ≤ s.e
        · exact .inr (.inr ⟨u, by simp, rfl, by omega⟩)
        · rcases hs with hs | ⟨hs, hno⟩
          · rcases h.ex s hs with g | g | ⟨x, hx, hx1, hx2⟩
            · exact .inl (hsv.symm.trans g)
            · exact .inr (.inl (by omega))
            · exact .inr (.inr ⟨x, List.mem_append_left _ hx, hx1.trans hsv, by omega⟩)
          · have : s.e = NV := by rw [hs]; rfl
            exact .inr (.inl (by omega))
      · rcases h.ex t q with g | g | ⟨x, hx, hx1⟩
        · exact .inl g
        · exact .inr (.inl g)
        · exact .inr (.inr ⟨x, List.mem_append_left _ hx, hx1⟩)
    · rcases k1 t ht with rfl | ⟨q, q2⟩
      · rw [hsu, hub]
        by_cases hm : s.b ≤ u.from_
        · exact .inr ⟨u, by simp, rfl, by omega⟩
        · rcases hs with hs | ⟨hs, hno⟩
          · rcases h.bx s hs with g | ⟨x, hx, hx1, hx2⟩
            · exact .inl (by omega)
            · exact .inr ⟨x, List.mem_append_left _ hx, hx1.trans hsv, by omega⟩
          · have : s.b = -1 := by rw [hs]; rfl
            exact .inl (by omega)
      · rcases h.bx t q with g | ⟨x, hx, hx1⟩
        · exact .inl g
        · exact .inr ⟨x, List.mem_append_left _ hx, hx1⟩
    · rcases k1 t ht with rfl | ⟨q, -⟩
      · rw [hsu]
        cases hu1 : u.wr
        · have e : (s.upd u).wr = s.wr := by unfold Sp.upd; rw [hu1]; rfl
          rw [e]
          rcases hs with hs | ⟨hs, -⟩
          · rcases h.wx s hs with q | q | ⟨x, hx, hx1, hx2, hx3⟩
            · exact .inl (hsv.symm.trans q)
            · exact .inr (.inl q)
            · exact .inr (.inr ⟨x, List.mem_append_left _ hx, hx1, hx2.trans hsv, hx3⟩)
          · exact .inr (.inl (by rw [hs]; rfl))
        · have e : (s.upd u).wr = u.from_ := by unfold Sp.upd; rw [hu1]; rfl
          exact .inr (.inr ⟨u, by simp, hu1, rfl, e⟩)
      · rcases h.wx t q with q2 | q2 | ⟨x, hx, hx1⟩
        · exact .inl q2
        · exact .inr (.inl q2)
        · exact .inr (.inr ⟨x, List.mem_append_left _ hx, hx1⟩)
    · rcases List.mem_append.1 hx with q | q
      · rcases k1 t ht with rfl | ⟨q2, q3⟩
        · cases hu1 : u.wr
          · have e : (s.upd u).wr = s.wr := by unfold Sp.upd; rw [hu1]; rfl
            rw [e]
            rcases hs with hs | ⟨hs, hno⟩
            · exact h.ws x q hx1 s hs (hsv.trans (hsu.symm.trans htv))
            · obtain ⟨t2, ht2, ht3⟩ := h.all x q
              exact absurd (ht3.trans (htv.symm.trans hsu)) (hno t2 ht2)
          · exact absurd (htv.symm.trans hsu) (hn x q hx1 hu1)
        · exact h.ws x q hx1 t q2 htv
      · obtain rfl := List.mem_singleton.1 q
        rcases k1 t ht with rfl | ⟨q2, q3⟩
        · unfold Sp.upd; rw [hx1]; rfl
        · exact absurd htv q3
    · rcases List.mem_append.1 hx with q | q
      · obtain ⟨t, ht, htv⟩ := h.all x q
        by_cases hxu : t.val = u.val
        · exact ⟨_, k2, hsu.trans (hxu.symm.trans htv)⟩
        · exact ⟨t, k3 t ht hxu, htv⟩
      · obtain rfl := List.mem_singleton.1 q
        exact ⟨_, k2, hsu⟩
    · rcases k1 t ht with rfl | ⟨q, -⟩
      · exact .inr ⟨u, by simp, hsu.symm⟩
      · rcases h.vd t q with g | ⟨x, hx, hx1⟩
        · exact .inl g
        · exact .inr ⟨x, List.mem_append_left _ hx, hx1⟩
theorem sx_all : ∀ (post pre : List Us) (L : List Sp), (pre ++ post).Pairwise (fun a b => a.wr = true → b.wr = true → a.val ≠ b.val) → (∀ u ∈ post, u.wr = true → u.val ≠ zeroL 32) → SX pre L → ∃ L', spansL L post = some L' ∧ SX (pre ++ post) L'
  | [], pre, L, hp, hz, h => ⟨L, rfl, by rw [List.append_nil]; exact h⟩
  | u :: post, pre, L, hp, hz, h => by
    obtain ⟨L1, h1, h2⟩ := sx_step (fun x hx => (List.pairwise_append.1 hp).2.2 x hx u (List.mem_cons_self ..)) (hz u (List.mem_cons_self ..)) h
    obtain ⟨L2, h3, h4⟩ := sx_all post (pre ++ [u]) L1 (by simpa using hp) (fun x hx => hz x (List.mem_cons_of_mem _ hx)) h2
    exact ⟨L2, by rw [spansL, h1]; exact h3, by simpa using h4⟩
theorem sx_of {us : List Us} (hp : us.Pairwise (fun a b => a.wr = true → b.wr = true → a.val ≠ b.val)) (hz : ∀ u ∈ us, u.wr = true → u.val ≠ zeroL 32) : ∃ L, spansL initS us = some L ∧ SX us L := by
  refine sx_all us [] initS hp hz ⟨⟨[], rfl⟩, by simp [initS], fun s hs _ => ?_, fun s hs u hu => by simp at hu, fun s hs => .inl ?_, fun s hs => .inl ?_, fun s hs => .inl ?_, fun x hx => by simp at hx, fun x hx => by simp at hx, fun s hs => .inl ?_⟩
  · rw [List.mem_singleton.1 hs]; exact Int.le_refl _
  all_goals rw [List.mem_singleton.1 hs]
/-- two spans clash just if both ways something ended ahead of the other's beginning -/
theorem clash_iff (s o : Sp) : (clashB s o = false ∧ clashB o s = false) ↔ ¬ (s.e < o.b ∧ o.e < s.b) := by
  unfold clashB fwd
  by_cases a : s.e < s.b <;> by_cases b : o.e < o.b <;> by_cases c : s.e < o.b <;> by_cases d : o.e < s.b <;> simp [a, b, c, d] <;> omega
theorem rm_map {us : List Us} {x : US} : Rm (us.map toUS) 0 x ↔ ∃ u ∈ us, x = toUS u := by
  constructor
  · rintro ⟨i, h, -⟩
    rw [List.getElem?_map] at h
    obtain ⟨u, hu, rfl⟩ := Option.map_eq_some_iff.1 h
    exact ⟨u, List.mem_of_getElem? hu, rfl⟩
  · rintro ⟨u, hu, rfl⟩
    obtain ⟨i, hi⟩ := List.mem_iff_getElem?.1 hu
    exact ⟨i, by rw [List.getElem?_map, hi]; rfl, Nat.zero_testBit i⟩
theorem fits_q {us : List Us} (hl : HU (us.map toUS)) (hp : us.Pairwise (fun a b => a.wr = true → b.wr = true → a.val ≠ b.val)) (hz : ∀ u ∈ us, u.wr = true → u.val ≠ zeroL 32) : FitsO (spansL initS us) ↔ Q4 (us.map toUS) 0 (zeroL 32) := by
  obtain ⟨L, hL, hx⟩ := sx_of hp hz
  rw [hL]
  have hlt : ∀ u ∈ us, 0 ≤ u.from_ ∧ u.from_ < u.til ∧ u.til ≤ NV := fun u hu => hl.lt (toUS u) (List.mem_map_of_mem hu)
  obtain ⟨r, hr⟩ := hx.head
  have hidx : ∀ (i k : Nat) s o, L[i]? = some s → L[k]? = some o → s.val = o.val → i = k := fun i k s o h1 h2 e => by
    have e1 : (L.map Sp.val)[i]? = some s.val := by rw [List.getElem?_map, h1]; rfl
    have e2 : (L.map Sp.val)[k]? = some s.val := by rw [List.getElem?_map, h2, e]; rfl
    exact (List.getElem?_inj (List.getElem?_eq_some_iff.1 e1).1 hx.nd).1 (e1.trans e2.symm)
  have hzero : ∀ (i : Nat) s, L[i]? = some s → (i = 0 ↔ s.val = zeroL 32) := fun i s h => by
    have e2 : (L.map Sp.val)[0]? = some (zeroL 32) := by rw [hr]; rfl
    rw [List.getElem?_map] at e2
    obtain ⟨s0, h0, e0⟩ := Option.map_eq_some_iff.1 e2
    constructor
    · rintro rfl
      rw [h0] at h
      rw [← Option.some.inj h]
      exact e0
    · intro e
      exact hidx i 0 s s0 h h0 (e.trans e0.symm)
  constructor
  · intro hf
    have hcl : ∀ s ∈ L, ∀ o ∈ L, s.val ≠ o.val → ¬ (s.e < o.b ∧ o.e < s.b) := fun s hs o ho hne => by
      obtain ⟨i, hi⟩ := List.mem_iff_getElem?.1 hs
      obtain ⟨k, hk⟩ := List.mem_iff_getElem?.1 ho
      rcases Nat.lt_trichotomy i k with q | q | q
      · have := (clash_iff o s).1 ((hf k o hk).2 i s q hi)
        omega
      · subst q
        rw [hi] at hk
        exact absurd (by rw [Option.some.inj hk]) hne
      · exact (clash_iff s o).1 ((hf i s hi).2 k o q hk)
    refine ⟨fun x hxr hw => ?_, fun x hxr hw => ?_, fun x y x' y' h1 h2 h3 h4 e1 e2 e3 l1 l2 => ?_, fun x y h1 h2 e1 e2 l1 => ?_⟩
    · obtain ⟨u, hu, rfl⟩ := rm_map.1 hxr
      exact hz u hu hw
    · obtain ⟨u, hu, rfl⟩ := rm_map.1 hxr
      by_cases hv : u.val = zeroL 32
      · exact .inl hv
      · right
        obtain ⟨s, hs, hsv⟩ := hx.all u hu
        obtain ⟨i, hi⟩ := List.mem_iff_getElem?.1 hs
        have hne : s.val ≠ zeroL 32 := fun e => hv (hsv.symm.trans e)
        have h1 := ((hf i s hi).1).resolve_left (fun e => hne ((hzero i s hi).1 e))
        have h2 := (hx.lo s hs u hu hsv.symm).1
        have h3 := hlt u hu
        rcases hx.wx s hs with q | q | ⟨w, hw1, hw2, hw3, hw4⟩
        · exact absurd q hne
        · rw [q] at h1; omega
        · exact ⟨toUS w, rm_map.2 ⟨w, hw1, rfl⟩, hw2, hw3.trans hsv, by show w.from_ < u.til; omega⟩
    · obtain ⟨u1, g1, rfl⟩ := rm_map.1 h1
      obtain ⟨u2, g2, rfl⟩ := rm_map.1 h2
      obtain ⟨u3, g3, rfl⟩ := rm_map.1 h3
      obtain ⟨u4, g4, rfl⟩ := rm_map.1 h4
      obtain ⟨s, hs, hsv⟩ := hx.all u1 g1
      obtain ⟨o, ho, hov⟩ := hx.all u2 g2
      have a1 := hx.lo s hs u1 g1 hsv.symm
      have a2 := hx.lo o ho u2 g2 hov.symm
      have a3 := hx.lo o ho u3 g3 ((show u2.val = u3.val from e2).symm.trans hov.symm)
      have a4 := hx.lo s hs u4 g4 ((show u1.val = u4.val from e1).symm.trans hsv.symm)
      have l1' : u1.til < u2.from_ := l1
      have l2' : u3.til < u4.from_ := l2
      exact hcl s hs o ho (fun e => e3 (show u1.val = u3.val by rw [← hsv, e, hov]; exact e2)) (by omega)
    · obtain ⟨u1, g1, rfl⟩ := rm_map.1 h1
      obtain ⟨u2, g2, rfl⟩ := rm_map.1 h2
      obtain ⟨s, hs, hsv⟩ := hx.all u1 g1
      obtain ⟨o, ho, hov⟩ := hx.all u2 g2
      have a1 := hx.lo s hs u1 g1 hsv.symm
      have a2 := hx.lo o ho u2 g2 hov.symm
      have hoz : o.val = zeroL 32 := hov.trans e1
      have a3 := hx.z o ho hoz
      have a4 := hlt u1 g1
      have l1' : u1.til < u2.from_ := l1
      exact hcl s hs o ho (fun e => e2 (show u1.val = zeroL 32 by rw [← hsv, e, hoz])) (by omega)
  · intro hq
    have hcl : ∀ s ∈ L, ∀ o ∈ L, s.val ≠ o.val → s.val ≠ zeroL 32 → ¬ (s.e < o.b ∧ o.e < s.b) := fun s hs o ho hne hsz hc => by
      have hsb : ∃ y ∈ us, y.val = s.val ∧ y.from_ = s.b := by
        rcases hx.bx s hs with q | q
        · exfalso
          rcases hx.ex o ho with g | g | ⟨u, hu, -, hu2⟩
          · have h1 := hx.vd s hs
            rcases h1.resolve_left hsz with ⟨u, hu, huv⟩
            have := hx.lo s hs u hu huv
            have := hlt u hu
            omega
          · have : NV = 1073741824 := rfl
            omega
          · have := hlt u hu
            omega
        · exact q
      obtain ⟨y', hy1, hy2, hy3⟩ := hsb
      have hse : ∃ x ∈ us, x.val = s.val ∧ x.til = s.e := by
        rcases hx.ex s hs with q | q | q
        · exact absurd q hsz
        · exfalso
          rcases hx.bx o ho with g | ⟨u, hu, -, hu2⟩
          · have : NV = 1073741824 := rfl
            omega
          · have := hlt u hu
            omega
        · exact q
      obtain ⟨x, hx1, hx2, hx3⟩ := hse
      have h3 := hlt x hx1
      have hob : ∃ y ∈ us, y.val = o.val ∧ y.from_ = o.b := by
        rcases hx.bx o ho with q | q
        · exfalso; omega
        · exact q
      obtain ⟨y, hy4, hy5, hy6⟩ := hob
      by_cases hoz : o.val = zeroL 32
      · exact hq.q3 (toUS x) (toUS y) (rm_map.2 ⟨x, hx1, rfl⟩) (rm_map.2 ⟨y, hy4, rfl⟩) (hy5.trans hoz) (fun e => hsz (hx2.symm.trans e)) (by show x.til < y.from_; omega)
      · have hoe : ∃ x ∈ us, x.val = o.val ∧ x.til = o.e := by
          rcases hx.ex o ho with q | q | q
          · exact absurd q hoz
          · exfalso
            have := hlt y' hy1
            omega
          · exact q
        obtain ⟨x', hx4, hx5, hx6⟩ := hoe
        exact hq.q2 (toUS x) (toUS y) (toUS x') (toUS y') (rm_map.2 ⟨x, hx1, rfl⟩) (rm_map.2 ⟨y, hy4, rfl⟩) (rm_map.2 ⟨x', hx4, rfl⟩) (rm_map.2 ⟨y', hy1, rfl⟩) (hx2.trans hy2.symm) (hy5.trans hx5.symm) (fun e => hne (hx2.symm.trans (e.trans hx5))) (by show x.til < y.from_; omega) (by show x'.til < y'.from_; omega)
    intro i s hi
    have hs := List.mem_of_getElem? hi
    refine ⟨?_, fun k o hk ho => (clash_iff s o).2 (hcl s hs o (List.mem_of_getElem? ho) (fun e => by have := hidx i k s o hi ho e; omega) (fun e => by have := (hzero i s hi).2 e; omega))⟩
    by_cases hv : s.val = zeroL 32
    · exact .inl ((hzero i s hi).2 hv)
    · right
      rcases hx.ex s hs with q | q | ⟨u, hu, hu1, hu2⟩
      · exact absurd q hv
      · obtain ⟨u, hu, huv⟩ := (hx.vd s hs).resolve_left hv
        have h1 := (hx.lo s hs u hu huv).1
        have h2 := hlt u hu
        have hul : u.til = NV := by omega
        cases hw : u.wr
        · have := hl.told (toUS u) (List.mem_map_of_mem hu) hw
          have h3 : u.til < 1073741824 := this
          have : NV = 1073741824 := rfl
          omega
        · have := hx.ws u hu hw s hs huv.symm
          omega
      · have h2 := hlt u hu
        cases hw : u.wr
        · rcases hq.q1 (toUS u) (rm_map.2 ⟨u, hu, rfl⟩) hw with g | ⟨w, g1, g2, g3, g4⟩
          · exact absurd (hu1.symm.trans g) hv
          · obtain ⟨w', hw', rfl⟩ := rm_map.1 g1
            have h4 : w'.from_ < u.til := g4
            have := hx.ws w' hw' g2 s hs (hu1.symm.trans (show w'.val = u.val from g3).symm)
            omega
        · have := hx.ws u hu hw s hs hu1.symm
          omega
theorem fits_ord {us : List Us} (hl : HU (us.map toUS)) (hp : us.Pairwise (fun a b => a.wr = true → b.wr = true → a.val ≠ b.val)) (hz : ∀ u ∈ us, u.wr = true → u.val ≠ zeroL 32) : FitsO (spansL initS us) ↔ Ord (us.map toUS) 0 (zeroL 32) :=
  (fits_q hl hp hz).trans ⟨fun hq => q_ord hl rfl _ 0 _ (Nat.le_refl _) hq, fun ho => ord_q hl ho fun x hx hw => by
    obtain ⟨u, hu, rfl⟩ := rm_map.1 hx
    exact hz u hu hw⟩
end Go.Proofs.Ytodjlaapmbnahaa
