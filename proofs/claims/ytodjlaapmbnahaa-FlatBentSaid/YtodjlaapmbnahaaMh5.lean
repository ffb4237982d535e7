/-
  Several texts, laid together.
-/
import Derived.Test.YtodjlaapmbnahaaHsK
/-
  FlatBent, pure: what is appended behind a history does with a block.
-/

namespace Go.Proofs.Ytodjlaapmbnahaa
open Go.RowKit
set_option linter.unusedVariables false
set_option linter.unusedSimpArgs false

theorem told_app (E X : List Ev) (z : Int) : told (E ++ X) z = (told E z).or ((told X z).map (· + E.length)) := by
  unfold told
  rw [List.findIdx?_append]
theorem usept_old {E X : List Ev} {o : Option Nat} (h : ∀ t, o = some t → t < E.length) (b : Int) (i k : Nat) (p : Pt) : usePt (E ++ X) o b i k p = usePt E o b i k p := by
  unfold usePt useS
  cases o with
  | none => rfl
  | some t => simp only [List.getElem?_append_left (h t rfl)]
theorem useev_old {E X : List Ev} {o : Option Nat} (h : ∀ t, o = some t → t < E.length) (b : Int) (i : Nat) (ps : List Pt) (n : Nat) : useEv (E ++ X) o b i ps n = useEv E o b i ps n := by
  unfold useEv
  congr 1
  funext k
  cases ps[k]? with
  | none => rfl
  | some p => exact usept_old h b i k p
theorem uses_old {E X : List Ev} {ops : List OpR} (hs : Hs E ops) (hX : ∀ y ∈ ops, told X y.id = none) (b : Int) (i : Nat) (hi : i < E.length) : usesAt (E ++ X) 4 b i = usesAt E 4 b i := by
  unfold usesAt
  rw [List.getElem?_append_left hi]
  cases he : E[i]? with
  | none => rfl
  | some e =>
    cases ha : e.ans
    · obtain ⟨y, hy, rfl⟩ := hs.asks i e he ha
      have e1 : e = y.ev := by have := hs.at_ y hy; rw [he] at this; exact Option.some.inj this
      subst e1
      have ht : told (E ++ X) y.ev.id = told E y.ev.id := by
        rw [told_app, show y.ev.id = y.id from rfl, hX y hy]
        cases told E y.id <;> rfl
      have hlt : ∀ t, told E y.ev.id = some t → t < E.length := fun t h => by
        obtain ⟨x, hx, -⟩ := told_some h
        exact (List.getElem?_eq_some_iff.1 hx).1
      simp only [ha, ht]
      rw [useev_old hlt]
    · simp [ha]
theorem usesn_old {E X : List Ev} {ops : List OpR} (hs : Hs E ops) (hX : ∀ y ∈ ops, told X y.id = none) (b : Int) : ∀ n, n ≤ E.length → usesN (E ++ X) 4 b n = usesN E 4 b n
  | 0, _ => rfl
  | n + 1, h => by rw [uses_next, uses_next, usesn_old hs hX b n (by omega), uses_old hs hX b n (by omega)]
theorem usesat_ans {E : List Ev} {i : Nat} {e : Ev} (h : E[i]? = some e) (ha : e.ans = true) (b : Int) : usesAt E 4 b i = [] := by
  unfold usesAt
  rw [h]
  simp [ha]
theorem parts_rd : evParts 0 0 32 ⟨#[]⟩ 4 = [⟨0, false, ⟨#[]⟩⟩] := by
  unfold evParts
  rw [if_pos (by decide)]
  rfl
theorem parts_wr {D : ByteArray} (h : D.size = 32) : evParts 1 0 0 D 4 = [⟨0, true, D⟩] := by
  have e : askSz 1 0 D = 32 := by unfold askSz; rw [if_pos rfl, h]; rfl
  unfold evParts
  rw [if_pos (by unfold AskMay Inside; rw [e]; decide), e]
  show [(⟨((0 : Nat) : Int), true, partD 1 D 0⟩ : Pt)] = _
  have : partD 1 D 0 = D := by
    unfold partD
    rw [if_pos rfl]
    apply bytes_inj
    rw [Lib.extract_data]
    have hl : D.data.toList.length = 32 := by rw [← h]; show D.data.toList.length = D.data.size; simp
    simp only [Nat.mul_zero, List.drop_zero]
    exact List.take_of_length_le (by omega)
  rw [this]
  rfl
theorem rdV_all {v : ByteArray} (h : v.size = 32) : rdV v 0 = v := by
  unfold rdV
  apply bytes_inj
  have hl : v.data.toList.length = 32 := by rw [← h]; show v.data.toList.length = v.data.size; simp
  rw [Lib.extract_data, h]
  simp only [Nat.mul_zero, Nat.zero_min, List.drop_zero]
  exact List.take_of_length_le (by omega)
def evRd (z : Int) : Ev := ⟨false, z, 5, 0, 0, 32, ⟨#[]⟩, false, 0, ⟨#[]⟩⟩
def evWr (z : Int) (D : ByteArray) : Ev := ⟨false, z, 5, 1, 0, 0, D, false, 0, ⟨#[]⟩⟩
def evAn (z : Int) (v : ByteArray) : Ev := ⟨true, z, 5, 0, 0, 0, ⟨#[]⟩, false, 0, v⟩
theorem usesat_rd {E : List Ev} {i t : Nat} {z z' : Int} {v : ByteArray} (h : E[i]? = some (evRd z)) (ht : told E z = some t) (he : E[t]? = some (evAn z' v)) (hs : v.size = 32) (b : Int) : usesAt E 4 b i = if b = 0 then [⟨false, v, i, t⟩] else [] := by
  unfold usesAt
  rw [h]
  show useEv E (told E z) b i (evParts 0 0 32 ⟨#[]⟩ 4) (evParts 0 0 32 ⟨#[]⟩ 4).length = _
  rw [ht, parts_rd]
  show usePt E (some t) b i 0 ⟨0, false, ⟨#[]⟩⟩ ++ [] = _
  rw [List.append_nil]
  have hu : useS E (some t) 0 false ⟨#[]⟩ = (false, v, (t : Int), true) := by
    unfold useS
    simp only [he]
    rw [if_pos (show (evAn z' v).err = 0 from rfl)]
    show (false, rdV v 0, (t : Int), true) = _
    rw [rdV_all hs]
  unfold usePt
  rw [hu]
  by_cases hb : b = 0
  · subst hb; rfl
  · rw [if_neg (fun e => hb e.symm), if_neg hb]
theorem usesat_wr {E : List Ev} {i t : Nat} {z z' : Int} {D v : ByteArray} (h : E[i]? = some (evWr z D)) (ht : told E z = some t) (he : E[t]? = some (evAn z' v)) (hs : D.size = 32) (b : Int) : usesAt E 4 b i = if b = 0 then [⟨true, D, i, t⟩] else [] := by
  unfold usesAt
  rw [h]
  show useEv E (told E z) b i (evParts 1 0 0 D 4) (evParts 1 0 0 D 4).length = _
  rw [ht, parts_wr hs]
  show usePt E (some t) b i 0 ⟨0, true, D⟩ ++ [] = _
  rw [List.append_nil]
  have hu : useS E (some t) 0 true D = (true, D, (t : Int), true) := by
    unfold useS
    simp only [he]
    rw [if_pos (show (evAn z' v).err = 0 from rfl)]
    rfl
  unfold usePt
  rw [hu]
  by_cases hb : b = 0
  · subst hb; rfl
  · rw [if_neg (fun e => hb e.symm), if_neg hb]
/-- a value that no history has -/
def FreshV (k : Int) (X : ByteArray) : Prop := X.size = 32 ∧ ∃ (b0 : UInt8) (l : List UInt8), (b0.toNat : Int) = k ∧ X.data.toList = 255 :: b0 :: l
theorem fresh_zero {k : Int} {X : ByteArray} (h : FreshV k X) : X ≠ zeroL 32 := by
  obtain ⟨-, b0, l, -, e⟩ := h
  intro e2
  rw [e2] at e
  cases e
theorem fresh_ne {X Y : ByteArray} (h : FreshV 1 X) (h2 : FreshV 2 Y) : X ≠ Y := by
  obtain ⟨-, b0, l, e0, e⟩ := h
  obtain ⟨-, b1, l1, e1, e2⟩ := h2
  intro e3
  rw [e3, e2] at e
  injection e with _ e
  injection e with e _
  subst e
  omega
theorem fresh_part {k : Int} {X : ByteArray} {i : Nat} {ops : List OpR} (h : FreshV k X) (hm : Mk i ops) {y : OpR} (hy : y ∈ ops) {j : Nat} {q : Pt} (hq : y.parts[j]? = some q) (hw : q.wr = true) : q.d ≠ X := by
  obtain ⟨y1, y2, y3, y4⟩ := hm y hy
  have g1 : y.W = 1 := (part_wr hq hw).resolve_right y3
  obtain ⟨m, hD⟩ := y4 g1
  obtain ⟨c, d, n1, n2, -⟩ := part_mark hq g1 hD
  obtain ⟨-, b0, l, -, e⟩ := h
  intro e2
  rw [e2, e] at n1
  cases n1
  exact n2 rfl
theorem uses_val {b : Nat} {E : List Ev} {V : List ByteArray} {ops : List OpR} {I : ByteArray → Int × Int} (hs : Hs E ops) (h : HB b E V ops I) : ∀ u ∈ usesN E 4 b E.length, valW ops b u.val := fun u hu => by
  obtain ⟨x, hx, k, p, hp, hb, hu2⟩ := (uses_mem hs).1 hu
  rcases (usept_op hs hx hb).1 hu2 with ⟨hw, rfl⟩ | ⟨hw, t, ht, rfl⟩
  · exact .inr ⟨x, hx, k, p, hp, hb, hw, rfl⟩
  · obtain ⟨e, _, _, _, hd⟩ := hs.ans x hx t ht
    exact (h.rd x hx hd k p hp hb hw).1
/-- the values that the spans tell -/
theorem spans_vals : ∀ (us : List Us) (L0 L : List Sp), (L0.map Sp.val).Nodup → spansL L0 us = some L → (L.map Sp.val).Nodup ∧ ∀ s ∈ L, (∃ t ∈ L0, t.val = s.val) ∨ ∃ u ∈ us, u.val = s.val
  | [], L0, L, hn, h => by cases h; exact ⟨hn, fun s hs => .inl ⟨s, hs, rfl⟩⟩
  | u :: us, L0, L, hn, h => by
    rw [spansL] at h
    cases hst : spStep L0 u with
    | none => rw [hst] at h; cases h
    | some L1 =>
      rw [hst] at h
      obtain ⟨s, hs, hsv, hw, k1, k2, k3, k4, r, k5⟩ := step_spec (u := u) hn
      have e1 : L1 = (withV L0 u.val).modify (ixV L0 u.val) (fun s => s.upd u) := by
        unfold spStep at hst
        split at hst
        · cases hst
        · exact (Option.some.inj hst).symm
      rw [← e1] at k1 k4
      obtain ⟨g1, g2⟩ := spans_vals us L1 L k4 h
      refine ⟨g1, fun t ht => ?_⟩
      rcases g2 t ht with ⟨t1, ht1, e⟩ | ⟨u1, hu1, e⟩
      · rcases k1 t1 ht1 with rfl | ⟨q, -⟩
        · exact .inr ⟨u, List.mem_cons_self .., by rw [← e, ← hsv]; rfl⟩
        · exact .inl ⟨t1, q, e⟩
      · exact .inr ⟨u1, List.mem_cons_of_mem _ hu1, e⟩
theorem spix_no {L : List Sp} {v : ByteArray} (h : ∀ s ∈ L, s.val ≠ v) : spIx L v = none := by
  unfold spIx
  rw [List.findIdx?_eq_none_iff]
  intro s hs
  simp [h s hs]
theorem step_new {L : List Sp} {u : Us} (h : ∀ s ∈ L, s.val ≠ u.val) : spStep L u = some (L ++ [(newS u.val).upd u]) := by
  have h0 := spix_no h
  have e1 : withV L u.val = L ++ [newS u.val] := by unfold withV; rw [h0]; rfl
  have e2 : ixV L u.val = L.length := by unfold ixV; rw [h0]
  unfold spStep
  rw [e1, e2]
  have e3 : isW (L ++ [newS u.val]) L.length = false := by unfold isW; simp [newS]
  rw [e3, Bool.and_false, if_neg (by simp)]
  congr 1
  apply List.ext_getElem?
  intro k
  rw [List.getElem?_modify]
  by_cases hk : L.length = k
  · subst hk; simp
  · simp only [if_neg hk]
    rcases Nat.lt_or_ge k L.length with q | q
    · rw [List.getElem?_append_left q, List.getElem?_append_left q]; simp
    · rw [List.getElem?_eq_none (by simp; omega), List.getElem?_eq_none (by simp; omega)]; rfl
theorem step_old {L M : List Sp} {s : Sp} {u : Us} (h : ∀ t ∈ L, t.val ≠ u.val) (hs : s.val = u.val) (hw : u.wr = true → s.wr = NV) : spStep (L ++ s :: M) u = some (L ++ s.upd u :: M) := by
  have h0 := spix_no h
  have h1 : spIx (L ++ s :: M) u.val = some L.length := by
    unfold spIx at h0 ⊢
    rw [List.findIdx?_append, h0, List.findIdx?_cons]
    simp [hs]
  have e1 : withV (L ++ s :: M) u.val = L ++ s :: M := by unfold withV; rw [h1]
  have e2 : ixV (L ++ s :: M) u.val = L.length := by unfold ixV; rw [h1]
  unfold spStep
  rw [e1, e2]
  have e3 : (u.wr && isW (L ++ s :: M) L.length) = false := by
    cases hu : u.wr
    · rfl
    · unfold isW; simp [hw hu]
  rw [e3, if_neg (by simp)]
  congr 1
  apply List.ext_getElem?
  intro k
  rw [List.getElem?_modify]
  by_cases hk : L.length = k
  · subst hk; simp
  · simp only [if_neg hk]
    rcases Nat.lt_or_ge k L.length with q | q
    · rw [List.getElem?_append_left q, List.getElem?_append_left q]; simp
    · rw [List.getElem?_append_right q, List.getElem?_append_right q]
      obtain ⟨m, hm⟩ : ∃ m, k - L.length = m + 1 := ⟨k - L.length - 1, by omega⟩
      rw [hm]; simp
end Go.Proofs.Ytodjlaapmbnahaa
/-
  FlatBent, pure: the four ways.
-/

namespace Go.Proofs.Ytodjlaapmbnahaa
open Go.RowKit
set_option linter.unusedVariables false
set_option linter.unusedSimpArgs false

theorem uses_okA {E : List Ev} (b : Int) (hok : ∀ e ∈ E, EvOk e) (hE : E.length ≤ 2000) : ∀ u ∈ usesN E 4 b E.length, UsOk u := by
  intro u hu
  unfold usesN at hu
  obtain ⟨i, hi, hu⟩ := List.mem_flatMap.1 hu
  rw [List.mem_range] at hi
  unfold usesAt at hu
  rw [List.getElem?_eq_getElem hi] at hu
  have hx := hok _ (List.getElem_mem hi)
  generalize E[i] = x at hu hx
  simp only at hu
  split at hu
  · simp at hu
  obtain ⟨k, p, hk, hp, hu⟩ := useev_mem.1 hu
  have hd : p.d.size ≤ maxLen := by
    rw [(parts_b hp).2.2.1]
    unfold partD
    split
    · have h1 := ext_len x.data (32 * k) (32 * k + 32)
      have h2 := hx.data
      omega
    · split
      · rw [zeroL_size]; decide
      · decide
  unfold usePt at hu
  split at hu
  · split at hu
    · rw [List.mem_singleton.1 hu]
      refine ⟨?_, ⟨by show (-1 : Int) ≤ (i : Int); omega, by show (i : Int) ≤ NV; unfold NV; omega⟩, ?_⟩
      · unfold useS
        cases ht : told E x.id with
        | none => exact hd
        | some t =>
          simp only
          cases he : E[t]? with
          | none => exact Nat.zero_le _
          | some e =>
            simp only
            split
            · split
              · exact hd
              · have h1 := ext_len e.txt (min (32 * k) e.txt.size) (min (min (32 * k) e.txt.size + 32) e.txt.size)
                have h2 := (hok _ (List.mem_of_getElem? he)).txt
                show (e.txt.extract _ _).size ≤ maxLen
                omega
            · exact Nat.zero_le _
      · unfold useS
        cases ht : told E x.id with
        | none => exact ⟨by show (-1 : Int) ≤ 1073741824; decide, by show (1073741824 : Int) ≤ NV; decide⟩
        | some t =>
          have htl : t < E.length := by
            obtain ⟨x, hx, -⟩ := told_some ht
            exact (List.getElem?_eq_some_iff.1 hx).1
          simp only
          cases he : E[t]? with
          | none => exact ⟨by show (-1 : Int) ≤ 0; decide, by show (0 : Int) ≤ NV; decide⟩
          | some e =>
            simp only
            split
            · split
              · exact ⟨by show (-1 : Int) ≤ (t : Int); omega, by show (t : Int) ≤ NV; unfold NV; omega⟩
              · exact ⟨by show (-1 : Int) ≤ (t : Int); omega, by show (t : Int) ≤ NV; unfold NV; omega⟩
            · exact ⟨by show (-1 : Int) ≤ 0; decide, by show (0 : Int) ≤ NV; decide⟩
    · simp at hu
  · simp at hu
theorem get_new (E X : List Ev) (j : Nat) : (E ++ X)[E.length + j]? = X[j]? := by
  rw [List.getElem?_append_right (by omega)]
  congr 1
  omega
theorem told_new {E X : List Ev} {z : Int} {j : Nat} (h : told E z = none) (hX : told X z = some j) : told (E ++ X) z = some (E.length + j) := by
  rw [told_app, h, hX]
  show some (j + E.length) = _
  rw [Nat.add_comm]
theorem told_far {X : List Ev} {z : Int} (h : ∀ e ∈ X, e.id ≠ z) : told X z = none := by
  unfold told
  rw [List.findIdx?_eq_none_iff]
  intro e he
  unfold isTold
  simp [h e he]
theorem usesn_none {E : List Ev} {b : Int} {n : Nat} : ∀ m, (∀ j, j < m → usesAt E 4 b (n + j) = []) → usesN E 4 b (n + m) = usesN E 4 b n
  | 0, _ => rfl
  | m + 1, h => by
    show usesN E 4 b (n + m + 1) = _
    rw [uses_next, h m (by omega), List.append_nil]
    exact usesn_none m fun j hj => h j (by omega)
/-- what a history is, that things may be appended to -/
structure Hist (E : List Ev) (V : List ByteArray) (ops : List OpR) : Prop where
  a : HsA E V ops
  mrk : Mk 60 ops
  n : E.length ≤ 60
  ok : ∀ e ∈ E, EvOk e
theorem Hist.no {E : List Ev} {V : List ByteArray} {ops : List OpR} (h : Hist E V ops) {z : Int} (hz : 60 < z) : told E z = none := h.a.fre z fun x hx e => by have := h.mrk x hx; omega
theorem Hist.far {E X : List Ev} {V : List ByteArray} {ops : List OpR} (h : Hist E V ops) (hX : ∀ e ∈ X, 60 < e.id) : ∀ y ∈ ops, told X y.id = none := fun y hy => told_far fun e he hh => by have := h.mrk y hy; have := hX e he; omega
theorem Hist.spans {E : List Ev} {V : List ByteArray} {ops : List OpR} (h : Hist E V ops) (b : Nat) (hb : b < 4) : ∃ L, spansL initS (usesN E 4 b E.length) = some L ∧ 1 ≤ L.length ∧ (∀ i, FitAt L i) ∧ ∀ (k : Int) (X : ByteArray), FreshV k X → ∀ s ∈ L, s.val ≠ X := by
  obtain ⟨I, hI⟩ := h.a.hb b hb
  obtain ⟨L, hL, hL1, hfit⟩ := cert_fits (hb_cert h.a.hs hI (by have := h.n; unfold NV; omega))
  refine ⟨L, hL, hL1, hfit, fun k X hX s hs => ?_⟩
  have hval := uses_val h.a.hs hI
  have key : ∀ v, valW ops b v → v ≠ X := fun v hv => by
    rcases hv with rfl | ⟨y, hy, j, q, hq, hqb, hqw, rfl⟩
    · exact fun e => fresh_zero hX e.symm
    · exact fresh_part hX h.mrk hy hq hqw
  rcases (spans_vals _ _ _ (by simp [initS]) hL).2 s hs with ⟨t, ht, e⟩ | ⟨u, hu, e⟩
  · rw [← e, List.mem_singleton.1 ht]
    exact key _ (.inl rfl)
  · rw [← e]
    exact key _ (hval u hu)
/-- the other block is as it was -/
theorem Hist.other {E X : List Ev} {V : List ByteArray} {ops : List OpR} (h : Hist E V ops) (hX : ∀ e ∈ X, 60 < e.id) (hn : ∀ j, j < X.length → usesAt (E ++ X) 4 1 (E.length + j) = []) : FitsO (spansL initS (usesN (E ++ X) 4 1 (E ++ X).length)) := by
  obtain ⟨L, hL, hL1, hfit, -⟩ := h.spans 1 (by decide)
  rw [List.length_append, usesn_none _ hn, usesn_old h.a.hs (h.far hX) 1 _ (Nat.le_refl _)]
  have e : ((1 : Nat) : Int) = 1 := rfl
  rw [e] at hL
  rw [hL]
  exact hfit
def X0 (w : ByteArray) : List Ev := [evRd 1000, evAn 1000 w]
def X1 (w : ByteArray) : List Ev := [evRd 1000, evAn 1000 w, evWr 1001 w, evAn 1001 ⟨#[]⟩]
def X2 (w x : ByteArray) : List Ev := [evWr 1001 w, evAn 1001 ⟨#[]⟩, evWr 1002 x, evAn 1002 ⟨#[]⟩, evRd 1000, evAn 1000 w]
def X3 (w x : ByteArray) : List Ev := [evWr 1001 w, evRd 1000, evWr 1002 x, evAn 1000 w, evAn 1001 ⟨#[]⟩, evAn 1002 ⟨#[]⟩]
theorem four_id {X : List Ev} (w x : ByteArray) (h : X = X0 w ∨ X = X1 w ∨ X = X2 w x ∨ X = X3 w x) : ∀ e ∈ X, 60 < e.id := by
  rcases h with rfl | rfl | rfl | rfl
  · intro e he
    simp only [X0, List.mem_cons, List.not_mem_nil, or_false] at he
    rcases he with rfl | rfl <;> first | exact (by decide : (60 : Int) < 1000) | exact (by decide : (60 : Int) < 1001) | exact (by decide : (60 : Int) < 1002)
  · intro e he
    simp only [X1, List.mem_cons, List.not_mem_nil, or_false] at he
    rcases he with rfl | rfl | rfl | rfl <;> first | exact (by decide : (60 : Int) < 1000) | exact (by decide : (60 : Int) < 1001) | exact (by decide : (60 : Int) < 1002)
  · intro e he
    simp only [X2, List.mem_cons, List.not_mem_nil, or_false] at he
    rcases he with rfl | rfl | rfl | rfl | rfl | rfl <;> first | exact (by decide : (60 : Int) < 1000) | exact (by decide : (60 : Int) < 1001) | exact (by decide : (60 : Int) < 1002)
  · intro e he
    simp only [X3, List.mem_cons, List.not_mem_nil, or_false] at he
    rcases he with rfl | rfl | rfl | rfl | rfl | rfl <;> first | exact (by decide : (60 : Int) < 1000) | exact (by decide : (60 : Int) < 1001) | exact (by decide : (60 : Int) < 1002)
/-- never written -/
theorem bent0 {E : List Ev} {V : List ByteArray} {ops : List OpR} (h : Hist E V ops) {w : ByteArray} (hw : FreshV 1 w) : ¬ FitsO (spansL initS (usesN (E ++ X0 w) 4 0 (E ++ X0 w).length)) ∧ FitsO (spansL initS (usesN (E ++ X0 w) 4 1 (E ++ X0 w).length)) := by
  have hid := four_id (X := X0 w) w w (.inl rfl)
  have t1 : told (E ++ X0 w) 1000 = some (E.length + 1) := told_new (h.no (by decide)) rfl
  have u0 : ∀ b, usesAt (E ++ X0 w) 4 b E.length = if b = 0 then [⟨false, w, (E.length : Int), ((E.length + 1 : Nat) : Int)⟩] else [] := usesat_rd (i := E.length) (get_new E (X0 w) 0) t1 (get_new E (X0 w) 1) hw.1
  have u1 : ∀ b, usesAt (E ++ X0 w) 4 b (E.length + 1) = [] := usesat_ans (get_new E (X0 w) 1) rfl
  refine ⟨fun hf => ?_, h.other hid fun j hj => ?_⟩
  · obtain ⟨L, hL, hL1, hfit, hno⟩ := h.spans 0 (by decide)
    have e : usesN (E ++ X0 w) 4 0 (E ++ X0 w).length = usesN E 4 0 E.length ++ [⟨false, w, (E.length : Int), ((E.length + 1 : Nat) : Int)⟩] := by
      rw [List.length_append]
      show usesN (E ++ X0 w) 4 0 (E.length + 1 + 1) = _
      rw [uses_next, uses_next, u0 0, u1 0, List.append_nil, if_pos rfl]
      rw [usesn_old h.a.hs (h.far hid) 0 _ (Nat.le_refl _)]
    rw [e, spans_app, show spansL initS (usesN E 4 0 E.length) = some L from hL] at hf
    simp only at hf
    rw [step_new (hno 1 w hw)] at hf
    have := (hf L.length _ (by simp; rfl)).1
    rcases this with q | q
    · omega
    · have q2 : (1073741824 : Int) < min 1073741824 ((E.length + 1 : Nat) : Int) := q
      omega
  · show usesAt (E ++ X0 w) 4 1 (E.length + j) = []
    have hj2 : j < 2 := hj
    match j, hj2 with
    | 0, _ => exact (u0 1).trans (if_neg (by decide))
    | 1, _ => exact u1 1
/-- written behind its end -/
theorem bent1 {E : List Ev} {V : List ByteArray} {ops : List OpR} (h : Hist E V ops) {w : ByteArray} (hw : FreshV 1 w) : ¬ FitsO (spansL initS (usesN (E ++ X1 w) 4 0 (E ++ X1 w).length)) ∧ FitsO (spansL initS (usesN (E ++ X1 w) 4 1 (E ++ X1 w).length)) := by
  have hid := four_id (X := X1 w) w w (.inr (.inl rfl))
  have t1 : told (E ++ X1 w) 1000 = some (E.length + 1) := told_new (h.no (by decide)) rfl
  have t2 : told (E ++ X1 w) 1001 = some (E.length + 3) := told_new (h.no (by decide)) rfl
  have u0 : ∀ b, usesAt (E ++ X1 w) 4 b E.length = if b = 0 then [⟨false, w, (E.length : Int), ((E.length + 1 : Nat) : Int)⟩] else [] := usesat_rd (i := E.length) (get_new E (X1 w) 0) t1 (get_new E (X1 w) 1) hw.1
  have u1 : ∀ b, usesAt (E ++ X1 w) 4 b (E.length + 1) = [] := usesat_ans (get_new E (X1 w) 1) rfl
  have u2 : ∀ b, usesAt (E ++ X1 w) 4 b (E.length + 2) = if b = 0 then [⟨true, w, ((E.length + 2 : Nat) : Int), ((E.length + 3 : Nat) : Int)⟩] else [] := usesat_wr (get_new E (X1 w) 2) t2 (get_new E (X1 w) 3) hw.1
  have u3 : ∀ b, usesAt (E ++ X1 w) 4 b (E.length + 3) = [] := usesat_ans (get_new E (X1 w) 3) rfl
  refine ⟨fun hf => ?_, h.other hid fun j hj => ?_⟩
  · obtain ⟨L, hL, hL1, hfit, hno⟩ := h.spans 0 (by decide)
    have e : usesN (E ++ X1 w) 4 0 (E ++ X1 w).length = (usesN E 4 0 E.length ++ [⟨false, w, (E.length : Int), ((E.length + 1 : Nat) : Int)⟩]) ++ [⟨true, w, ((E.length + 2 : Nat) : Int), ((E.length + 3 : Nat) : Int)⟩] := by
      rw [List.length_append]
      show usesN (E ++ X1 w) 4 0 (E.length + 1 + 1 + 1 + 1) = _
      rw [uses_next, uses_next, uses_next, uses_next, show E.length + 1 + 1 + 1 = E.length + 3 from rfl, u3 0, show E.length + 1 + 1 = E.length + 2 from rfl, u2 0, u1 0, u0 0, List.append_nil, List.append_nil, if_pos rfl, if_pos rfl]
      rw [usesn_old h.a.hs (h.far hid) 0 _ (Nat.le_refl _)]
    rw [e, spans_app, spans_app, show spansL initS (usesN E 4 0 E.length) = some L from hL] at hf
    simp only at hf
    rw [step_new (hno 1 w hw)] at hf
    simp only at hf
    rw [step_old (M := []) (hno 1 w hw) rfl (fun _ => rfl)] at hf
    have := (hf L.length _ (by simp; rfl)).1
    rcases this with q | q
    · omega
    · have q2 : ((E.length + 2 : Nat) : Int) < min (min 1073741824 ((E.length + 1 : Nat) : Int)) ((E.length + 3 : Nat) : Int) := q
      omega
  · show usesAt (E ++ X1 w) 4 1 (E.length + j) = []
    have hj2 : j < 4 := hj
    match j, hj2 with
    | 0, _ => exact (u0 1).trans (if_neg (by decide))
    | 1, _ => exact u1 1
    | 2, _ => rw [u2, if_neg (by decide)]
    | 3, _ => exact u3 1
/-- overwritten ahead of its beginning -/
theorem bent2 {E : List Ev} {V : List ByteArray} {ops : List OpR} (h : Hist E V ops) {w x : ByteArray} (hw : FreshV 1 w) (hx : FreshV 2 x) : ¬ FitsO (spansL initS (usesN (E ++ X2 w x) 4 0 (E ++ X2 w x).length)) ∧ FitsO (spansL initS (usesN (E ++ X2 w x) 4 1 (E ++ X2 w x).length)) := by
  have hid := four_id (X := X2 w x) w x (.inr (.inr (.inl rfl)))
  have t1 : told (E ++ X2 w x) 1001 = some (E.length + 1) := told_new (h.no (by decide)) rfl
  have t2 : told (E ++ X2 w x) 1002 = some (E.length + 3) := told_new (h.no (by decide)) rfl
  have t3 : told (E ++ X2 w x) 1000 = some (E.length + 5) := told_new (h.no (by decide)) rfl
  have u0 : ∀ b, usesAt (E ++ X2 w x) 4 b E.length = if b = 0 then [⟨true, w, (E.length : Int), ((E.length + 1 : Nat) : Int)⟩] else [] := usesat_wr (i := E.length) (get_new E (X2 w x) 0) t1 (get_new E (X2 w x) 1) hw.1
  have u1 : ∀ b, usesAt (E ++ X2 w x) 4 b (E.length + 1) = [] := usesat_ans (get_new E (X2 w x) 1) rfl
  have u2 : ∀ b, usesAt (E ++ X2 w x) 4 b (E.length + 2) = if b = 0 then [⟨true, x, ((E.length + 2 : Nat) : Int), ((E.length + 3 : Nat) : Int)⟩] else [] := usesat_wr (get_new E (X2 w x) 2) t2 (get_new E (X2 w x) 3) hx.1
  have u3 : ∀ b, usesAt (E ++ X2 w x) 4 b (E.length + 3) = [] := usesat_ans (get_new E (X2 w x) 3) rfl
  have u4 : ∀ b, usesAt (E ++ X2 w x) 4 b (E.length + 4) = if b = 0 then [⟨false, w, ((E.length + 4 : Nat) : Int), ((E.length + 5 : Nat) : Int)⟩] else [] := usesat_rd (get_new E (X2 w x) 4) t3 (get_new E (X2 w x) 5) hw.1
  have u5 : ∀ b, usesAt (E ++ X2 w x) 4 b (E.length + 5) = [] := usesat_ans (get_new E (X2 w x) 5) rfl
  refine ⟨fun hf => ?_, h.other hid fun j hj => ?_⟩
  · obtain ⟨L, hL, hL1, hfit, hno⟩ := h.spans 0 (by decide)
    have e : usesN (E ++ X2 w x) 4 0 (E ++ X2 w x).length = ((usesN E 4 0 E.length ++ [⟨true, w, (E.length : Int), ((E.length + 1 : Nat) : Int)⟩]) ++ [⟨true, x, ((E.length + 2 : Nat) : Int), ((E.length + 3 : Nat) : Int)⟩]) ++ [⟨false, w, ((E.length + 4 : Nat) : Int), ((E.length + 5 : Nat) : Int)⟩] := by
      rw [List.length_append]
      show usesN (E ++ X2 w x) 4 0 (E.length + 1 + 1 + 1 + 1 + 1 + 1) = _
      rw [uses_next, uses_next, uses_next, uses_next, uses_next, uses_next, show E.length + 1 + 1 + 1 + 1 + 1 = E.length + 5 from rfl, u5 0, show E.length + 1 + 1 + 1 + 1 = E.length + 4 from rfl, u4 0, show E.length + 1 + 1 + 1 = E.length + 3 from rfl, u3 0, show E.length + 1 + 1 = E.length + 2 from rfl, u2 0, u1 0, u0 0, List.append_nil, List.append_nil, List.append_nil, if_pos rfl, if_pos rfl, if_pos rfl]
      rw [usesn_old h.a.hs (h.far hid) 0 _ (Nat.le_refl _)]
    rw [e, spans_app, spans_app, spans_app, show spansL initS (usesN E 4 0 E.length) = some L from hL] at hf
    simp only at hf
    rw [step_new (hno 1 w hw)] at hf
    simp only at hf
    rw [step_new (u := ⟨true, x, ((E.length + 2 : Nat) : Int), ((E.length + 3 : Nat) : Int)⟩) (fun s hs => by
      rcases List.mem_append.1 hs with q | q
      · exact hno 2 x hx s q
      · rw [List.mem_singleton.1 q]; exact fresh_ne hw hx)] at hf
    simp only at hf
    have h3 := step_old (L := L) (M := [(newS x).upd ⟨true, x, ((E.length + 2 : Nat) : Int), ((E.length + 3 : Nat) : Int)⟩]) (s := (newS w).upd ⟨true, w, (E.length : Int), ((E.length + 1 : Nat) : Int)⟩) (u := ⟨false, w, ((E.length + 4 : Nat) : Int), ((E.length + 5 : Nat) : Int)⟩) (hno 1 w hw) rfl (fun q => by cases q)
    rw [List.append_assoc] at hf
    have hf := (congrArg FitsO h3).mp hf
    have := ((hf (L.length + 1) _ (by simp; rfl)).2 L.length _ (by omega) (by simp; rfl)).2
    have hn := h.n
    have ct : clashB (((newS w).upd ⟨true, w, (E.length : Int), ((E.length + 1 : Nat) : Int)⟩).upd ⟨false, w, ((E.length + 4 : Nat) : Int), ((E.length + 5 : Nat) : Int)⟩) ((newS x).upd ⟨true, x, ((E.length + 2 : Nat) : Int), ((E.length + 3 : Nat) : Int)⟩) = true := by
      have e1 : (((newS w).upd ⟨true, w, (E.length : Int), ((E.length + 1 : Nat) : Int)⟩).upd ⟨false, w, ((E.length + 4 : Nat) : Int), ((E.length + 5 : Nat) : Int)⟩).e = E.length + 1 := by
        show min (min (1073741824 : Int) ((E.length + 1 : Nat) : Int)) ((E.length + 5 : Nat) : Int) = _
        omega
      have e2 : (((newS w).upd ⟨true, w, (E.length : Int), ((E.length + 1 : Nat) : Int)⟩).upd ⟨false, w, ((E.length + 4 : Nat) : Int), ((E.length + 5 : Nat) : Int)⟩).b = E.length + 4 := by
        show max (max (-1 : Int) (E.length : Int)) ((E.length + 4 : Nat) : Int) = _
        omega
      have e3 : ((newS x).upd ⟨true, x, ((E.length + 2 : Nat) : Int), ((E.length + 3 : Nat) : Int)⟩).e = E.length + 3 := by
        show min (1073741824 : Int) ((E.length + 3 : Nat) : Int) = _
        omega
      have e4 : ((newS x).upd ⟨true, x, ((E.length + 2 : Nat) : Int), ((E.length + 3 : Nat) : Int)⟩).b = E.length + 2 := by
        show max (-1 : Int) ((E.length + 2 : Nat) : Int) = _
        omega
      unfold clashB fwd
      rw [e1, e2, e3, e4]
      rw [decide_eq_true (show (E.length : Int) + 1 < E.length + 4 by omega), decide_eq_false (show ¬ ((E.length : Int) + 3 < E.length + 2) by omega), decide_eq_true (show (E.length : Int) + 1 < E.length + 2 by omega), decide_eq_true (show (E.length : Int) + 2 < E.length + 4 by omega), decide_eq_true (show (E.length : Int) + 1 < E.length + 3 by omega), decide_eq_true (show (E.length : Int) + 3 < E.length + 4 by omega)]
      rfl
    exact Bool.noConfusion (ct.symm.trans this)
  · show usesAt (E ++ X2 w x) 4 1 (E.length + j) = []
    have hj2 : j < 6 := hj
    match j, hj2 with
    | 0, _ => exact (u0 1).trans (if_neg (by decide))
    | 1, _ => exact u1 1
    | 2, _ => rw [u2, if_neg (by decide)]
    | 3, _ => exact u3 1
    | 4, _ => rw [u4, if_neg (by decide)]
    | 5, _ => exact u5 1
end Go.Proofs.Ytodjlaapmbnahaa
/-
  FlatBent, pure: what is read between a writing and the next one fits.
-/

namespace Go.Proofs.Ytodjlaapmbnahaa
open Go.RowKit
set_option linter.unusedVariables false
set_option linter.unusedSimpArgs false

theorem outL_nowr {W : Int} (hW : W ≠ 0) (q : Nat) (L : List ByteArray) : ∀ m, outL W q L m = []
  | 0 => rfl
  | m + 1 => by rw [outL, outL_nowr hW q L m, if_neg hW]; rfl
theorem outS_wr {s : Stp} (h : s.W ≠ 0) (L : List ByteArray) : outS s L = ⟨#[]⟩ := by
  unfold outS
  split
  · rw [outL_nowr h]
  · rfl
def opW (z : Int) (n : Nat) (D : ByteArray) : OpR := ⟨z, n, 1, 0, 0, D, false, false, ⟨#[]⟩, none⟩
def opR (z : Int) (n : Nat) : OpR := ⟨z, n, 0, 0, 32, ⟨#[]⟩, false, false, ⟨#[]⟩, none⟩
theorem opW_parts {z : Int} {n : Nat} {D : ByteArray} (h : D.size = 32) : (opW z n D).parts = [⟨0, true, D⟩] := parts_wr h
theorem opR_parts {z : Int} {n : Nat} : (opR z n).parts = [⟨0, false, ⟨#[]⟩⟩] := parts_rd
theorem part_one {l : List Pt} {q : Pt} (h : l = [q]) {k : Nat} {p : Pt} (hp : l[k]? = some p) : p = q := by
  rw [h] at hp
  exact List.mem_singleton.1 (List.mem_of_getElem? hp)
theorem step_w {D : ByteArray} (h : D.size = 32) {z : Int} {n : Nat} {V : List ByteArray} (hV : V.length = 4) : (stepV (opW z n D).stp V)[0]? = some D := by
  have hm : (opW z n D).stp.W ≠ 3 ∧ AskMay (opW z n D).stp.W (opW z n D).stp.A (opW z n D).stp.L (opW z n D).stp.D 4 := by
    refine ⟨(by decide : (1 : Int) ≠ 3), ?_⟩
    show AskMay 1 0 0 D 4
    have e : askSz 1 0 D = 32 := by unfold askSz; rw [if_pos rfl, h]; rfl
    unfold AskMay Inside
    rw [e]
    decide
  unfold stepV
  rw [if_pos hm]
  show (doL 1 0 D V (askSz 1 0 D / 32).toNat)[0]? = _
  have e : askSz 1 0 D = 32 := by unfold askSz; rw [if_pos rfl, h]; rfl
  rw [e, doL_get 1 D V 0 (by decide) _ (by rw [hV]; decide) 0, if_pos (by decide)]
  have e3 := parts_wr h
  have e2 : (evParts 1 0 0 D 4)[0]? = some ⟨0, true, D⟩ := by rw [e3]; rfl
  have := (parts_b e2).2.2.1
  rw [← this]
theorem out_r {z : Int} {n : Nat} {V : List ByteArray} {D : ByteArray} (h : V[0]? = some D) : outS (opR z n).stp V = D := by
  have hm : (opR z n).stp.W ≠ 3 ∧ AskMay (opR z n).stp.W (opR z n).stp.A (opR z n).stp.L (opR z n).stp.D 4 := (by decide : (0 : Int) ≠ 3 ∧ AskMay 0 0 32 ⟨#[]⟩ 4)
  unfold outS
  rw [if_pos hm]
  show (⟨([] ++ (if (0 : Int) = 0 then (V.getD (0 + 0) ⟨#[]⟩).data.toList else [])).toArray⟩ : ByteArray) = D
  rw [if_pos rfl, List.getD_eq_getElem?_getD, Nat.add_zero, h]
  simp
theorem HsA.fits {E : List Ev} {V : List ByteArray} {ops : List OpR} (h : HsA E V ops) (hE : (E.length : Int) < NV) (b : Nat) (hb : b < 4) : FitsO (spansL initS (usesN E 4 b E.length)) := by
  obtain ⟨I, hI⟩ := h.hb b hb
  obtain ⟨L, hL, hL1, hfit⟩ := cert_fits (hb_cert h.hs hI hE)
  rw [hL]
  exact hfit
theorem bent3 {E : List Ev} {V : List ByteArray} {ops : List OpR} (h : Hist E V ops) {w x : ByteArray} (hw : FreshV 1 w) (hx : FreshV 2 x) : FitsO (spansL initS (usesN (E ++ X3 w x) 4 0 (E ++ X3 w x).length)) ∧ FitsO (spansL initS (usesN (E ++ X3 w x) 4 1 (E ++ X3 w x).length)) := by
  have hn := h.n
  obtain ⟨n, hn'⟩ : ∃ n, E.length = n := ⟨_, rfl⟩
  have hold : ∀ y ∈ ops, y.id ≤ 60 := fun y hy => (h.mrk y hy).2.1
  -- asked for: the first writing
  have A1 := h.a.ask (opW 1001 n w) hn'.symm rfl rfl (by unfold NV; omega) (fun y hy e => by have := hold y hy; rw [e] at this; exact absurd this (by decide : ¬ (1001 : Int) ≤ 60)) (fun k p hp hpw => by
    rw [part_one (opW_parts hw.1) hp]
    exact ⟨fresh_zero hw, fun y hy j q hq hqw => fresh_part hw h.mrk hy hq hqw⟩)
  have A2 := A1.did (opW 1001 n w) (List.mem_cons_self ..) rfl rfl (by simp; unfold NV; omega)
  have hV1 := step_w hw.1 (z := 1001) (n := n) h.a.n
  rw [outS_wr (show (opW 1001 n w).stp.W ≠ 0 from (by decide : (1 : Int) ≠ 0))] at A2
  generalize stepV (opW 1001 n w).stp V = V1 at A2 hV1
  have hop2 : ∀ y ∈ rep (opW 1001 n w :: ops) { opW 1001 n w with done := true, out := ⟨#[]⟩ }, y = { opW 1001 n w with done := true, out := ⟨#[]⟩ } ∨ y ∈ ops := fun y hy => by
    rcases mem_rep.1 hy with q | ⟨q1, q2⟩
    · exact .inl q
    · rcases List.mem_cons.1 q1 with q | q
      · exact absurd (by rw [q]) q2
      · exact .inr q
  have hmem2 : ({ opW 1001 n w with done := true, out := ⟨#[]⟩ } : OpR) ∈ rep (opW 1001 n w :: ops) { opW 1001 n w with done := true, out := ⟨#[]⟩ } := mem_rep.2 (.inl rfl)
  generalize hops2 : rep (opW 1001 n w :: ops) { opW 1001 n w with done := true, out := ⟨#[]⟩ } = ops2 at A2 hop2 hmem2
  -- the reading
  have A3 := A2.ask (opR 1000 (n + 1)) (by simp [hn']; rfl) rfl rfl (by simp; unfold NV; omega) (fun y hy e => by
    rcases hop2 y hy with rfl | q
    · exact absurd e (by show (1001 : Int) ≠ 1000; decide)
    · have := hold y q; rw [e] at this; exact absurd this (by decide : ¬ (1000 : Int) ≤ 60)) (fun k p hp hpw => by
    rw [part_one opR_parts hp] at hpw
    cases hpw)
  have A4 := A3.did (opR 1000 (n + 1)) (List.mem_cons_self ..) rfl rfl (by simp; unfold NV; omega)
  rw [out_r hV1] at A4
  generalize stepV (opR 1000 (n + 1)).stp V1 = V2 at A4
  have hop4 : ∀ y ∈ rep (opR 1000 (n + 1) :: ops2) { opR 1000 (n + 1) with done := true, out := w }, y = { opR 1000 (n + 1) with done := true, out := w } ∨ y ∈ ops2 := fun y hy => by
    rcases mem_rep.1 hy with q | ⟨q1, q2⟩
    · exact .inl q
    · rcases List.mem_cons.1 q1 with q | q
      · exact absurd (by rw [q]) q2
      · exact .inr q
  have hmem4 : ({ opR 1000 (n + 1) with done := true, out := w } : OpR) ∈ rep (opR 1000 (n + 1) :: ops2) { opR 1000 (n + 1) with done := true, out := w } := mem_rep.2 (.inl rfl)
  have hmem4w : ({ opW 1001 n w with done := true, out := ⟨#[]⟩ } : OpR) ∈ rep (opR 1000 (n + 1) :: ops2) { opR 1000 (n + 1) with done := true, out := w } := mem_rep.2 (.inr ⟨List.mem_cons_of_mem _ hmem2, by show (1001 : Int) ≠ 1000; decide⟩)
  generalize hops4 : rep (opR 1000 (n + 1) :: ops2) { opR 1000 (n + 1) with done := true, out := w } = ops4 at A4 hop4 hmem4 hmem4w
  -- the second writing
  have A5 := A4.ask (opW 1002 (n + 2) x) (by simp [hn']; rfl) rfl rfl (by simp; unfold NV; omega) (fun y hy e => by
    rcases hop4 y hy with rfl | q
    · exact absurd e (by show (1000 : Int) ≠ 1002; decide)
    · rcases hop2 y q with rfl | q
      · exact absurd e (by show (1001 : Int) ≠ 1002; decide)
      · have := hold y q; rw [e] at this; exact absurd this (by decide : ¬ (1002 : Int) ≤ 60)) (fun k p hp hpw => by
    rw [part_one (opW_parts hx.1) hp]
    refine ⟨fresh_zero hx, fun y hy j q hq hqw => ?_⟩
    rcases hop4 y hy with rfl | g
    · have := part_one (opR_parts (z := 1000) (n := n + 1)) hq
      rw [this] at hqw
      cases hqw
    · rcases hop2 y g with rfl | g
      · have := part_one (opW_parts hw.1 (z := 1001) (n := n)) hq
        rw [this]
        exact fresh_ne hw hx
      · exact fresh_part hx h.mrk g hq hqw)
  -- the reading is told, then the first writing
  have A6 := A5.tell { opR 1000 (n + 1) with done := true, out := w } (List.mem_cons_of_mem _ hmem4) rfl rfl
  have A7 := A6.tell { opW 1001 n w with done := true, out := ⟨#[]⟩ } (mem_rep.2 (.inr ⟨List.mem_cons_of_mem _ hmem4w, by show (1001 : Int) ≠ 1000; decide⟩)) rfl rfl
  have A8 := A7.did (opW 1002 (n + 2) x) (mem_rep.2 (.inr ⟨mem_rep.2 (.inr ⟨List.mem_cons_self .., by show (1002 : Int) ≠ 1000; decide⟩), by show (1002 : Int) ≠ 1001; decide⟩)) rfl rfl (by simp; unfold NV; omega)
  rw [outS_wr (show (opW 1002 (n + 2) x).stp.W ≠ 0 from (by decide : (1 : Int) ≠ 0))] at A8
  have A9 := A8.tell { opW 1002 (n + 2) x with done := true, out := ⟨#[]⟩ } (mem_rep.2 (.inl rfl)) rfl rfl
  have hE : (((((E ++ [(opW 1001 n w).ev]) ++ [(opR 1000 (n + 1)).ev]) ++ [(opW 1002 (n + 2) x).ev]) ++ [({ opR 1000 (n + 1) with done := true, out := w } : OpR).ans]) ++ [({ opW 1001 n w with done := true, out := ⟨#[]⟩ } : OpR).ans]) ++ [({ opW 1002 (n + 2) x with done := true, out := ⟨#[]⟩ } : OpR).ans] = E ++ X3 w x := by
    simp only [List.append_assoc]
    rfl
  rw [hE] at A9
  have hl : ((E ++ X3 w x).length : Int) < NV := by
    have : (E ++ X3 w x).length = E.length + 6 := by rw [List.length_append]; rfl
    rw [this]
    unfold NV
    omega
  exact ⟨A9.fits hl 0 (by decide), A9.fits hl 1 (by decide)⟩
end Go.Proofs.Ytodjlaapmbnahaa
