/-
  Several texts, laid together.
-/
import Derived.Test.YtgnnijpfkgmomaaGreatDoorMh15
import Derived.Test.YtgnnijpfkgmomaaGreatDoorMh14
/-
  journal: tell; what telling leaves of a disk.
-/


namespace Go.Proofs.YtgnnijpfkgmomaaGreatDoor
open Go.RowKit
set_option linter.unusedVariables false
set_option linter.unusedSimpArgs false

/-- a word has been told, and has its fate: it is there, or the elder one is -/
theorem tell_out {w w' : World} {N q at' M f : Nat} {sv : Value} {S : List ByteArray} {a b last word : ByteArray} (h : PDsk w N q sv S a b at' last M) (hM : M ≤ 1000000) (hw : word.size ≤ 48)
    (hd : Dsk w' N q sv (.slice none 0 0) (fateS (f : Nat) S (nextP a b at' % 2, putS (nextP a b at') word)) []) :
    ∃ a' b', (f = 1 ∧ PDsk w' N q sv (fateS (f : Nat) S (nextP a b at' % 2, putS (nextP a b at') word)) a' b' (nextP a b at') (padS word) (nextP a b at')) ∨ (f ≠ 1 ∧ PDsk w' N q sv (fateS (f : Nat) S (nextP a b at' % 2, putS (nextP a b at') word)) a' b' at' last (nextP a b at')) := by
  obtain ⟨g1, g2, g3⟩ := nextP_gt a b at'
  have hm := h.pair.most
  have hp0 : Pair a b at' last (top4 a b) := ⟨h.pair.sa, h.pair.sb, Nat.le_refl _, h.pair.zero, h.pair.even, h.pair.odd⟩
  obtain ⟨a', b', e0, e1, hp⟩ := hp0.fate (f := f) g1 (by omega) g3 hw (Nat.le_of_lt g1) S h.s0 h.s1
  refine ⟨a', b', ?_⟩
  rcases hp with ⟨hf, hp⟩ | ⟨hf, hp⟩
  · exact .inl ⟨hf, hd, e0, e1, hp, by omega⟩
  · exact .inr ⟨hf, hd, e0, e1, hp, by omega⟩
/-- behind the super's sectors nothing has turned -/
theorem tell_same {S : List ByteArray} {n f : Nat} {word : ByteArray} (hS : ∀ s ∈ S, s.size = 64) (hl : 2 ≤ S.length) (hw : word.size ≤ 48) : ∀ j, 128 ≤ j → flatD (fateS (f : Nat) S (n % 2, putS n word)) [] j = flatD S [] j := by
  have hlt : n % 2 < 2 := Nat.mod_lt _ (by omega)
  exact fate_sameP (f : Nat) S (n % 2, putS n word) (fun j => 128 ≤ j) hS ⟨by show n % 2 < S.length; omega, putS_size n word hw⟩ (fun q hq h => absurd h (by show ¬ 128 ≤ 64 * (n % 2) + q; omega))
theorem nextP_one (a b : ByteArray) (at' M : Nat) (h : top4 a b ≤ M) (h2 : at' ≤ top4 a b) (h3 : at' = M) : nextP a b at' = at' + 1 := by
  unfold nextP
  rw [if_neg (by omega)]
  omega
/-- the new state, told -/
theorem dx_new {S S' : List ByteArray} {s : DS} {last word : ByteArray} {now' n : Nat} {rs' : List JO} (hx : DX S s last) (ha : AX S s.n now' rs') (hs : ∀ j, 128 ≤ j → flatD S' [] j = flatD S [] j) (hl : S'.length = S.length) (hn : 0 < n) (hw : word = wordJ now' (lenJ rs')) :
    DX S' ⟨s.n, rs', now', n, n⟩ (padS word) := by
  have h := ha.same hs
  exact ⟨hl.trans hx.len, hx.least, hx.most, h.le1, fun e => by have : n = 0 := e; omega, fun _ => by rw [hw], h.bytes, h.room, h.ok, h.fit⟩
/-- the old state, with a greater number somewhere -/
theorem dx_old {S S' : List ByteArray} {s : DS} {last : ByteArray} (hx : DX S s last) (hs : ∀ j, 128 ≤ j → flatD S' [] j = flatD S [] j) (hl : S'.length = S.length) (top : Nat) : DX S' ⟨s.n, s.rs, s.now, s.told, top⟩ last :=
  ⟨hl.trans hx.len, hx.least, hx.most, hx.now, hx.zero, hx.word, fun j hj => (hs _ (by omega)).trans (hx.bytes j hj), hx.room, hx.ok, hx.fit⟩
set_option maxHeartbeats 4000000 in
set_option maxRecDepth 100000 in
theorem jtell {w : World} {N p q at' M now used : Nat} {sv : Value} {S : List ByteArray} {a b last : ByteArray} {cs : Array Value} (h : PDsk w N q sv S a b at' last M) (hM : M ≤ 1000000) (hpo : w.heap[p]? = some (.cells cs 64)) (hp : w.cell? ⟨p, 0, none⟩ = some (.pointer (some ⟨q, 0, none⟩))) (h1 : now ≤ 1) (h2 : used ≤ 1000000) :
    Calls Tryz.prog 40 #[.pointer (some ⟨p, 0, none⟩), .agg #[.int .i64 now, .int .i64 used, .int .u64 (nextP a b at')]] w fun e w' => e = .returned (.bool true) ∧ ∃ v2, Dsk w' N q sv v2 S [(nextP a b at' % 2, putS (nextP a b at') (wordJ now used))] ∧ TK w w' [58, 9, 117] ∧ Below N w w' := by
  obtain ⟨g1, g2, g3⟩ := nextP_gt a b at'
  have hm := h.pair.most
  have hl := h.len
  obtain ⟨n, hn⟩ : ∃ n, nextP a b at' = n := ⟨_, rfl⟩
  rw [hn] at g1 g2 g3 ⊢
  have hx1 := heap_alloc_self w (.cells #[.int .i64 now, .int .i64 used, .int .u64 n] 62)
  have hb1 : Below w.heap.size w (w.alloc (.cells #[.int .i64 now, .int .i64 used, .int .u64 n] 62)) := (Below.refl _ _).alloc (Nat.le_refl _) _
  obtain ⟨X, hX⟩ : ∃ X, w.heap.size = X := ⟨_, rfl⟩
  rw [hX] at hx1
  have hpX : p < X := by rw [← hX]; exact lt_heap hpo
  obtain ⟨gw1, gw2⟩ := word_le now used h1 h2
  have cW : ∀ w', Below (X + 1) (w.alloc (.cells #[.int .i64 now, .int .i64 used, .int .u64 n] 62)) w' → Calls Tryz.prog 72 #[.pointer (some ⟨q, 0, none⟩), .int .i64 0, .int .u64 n, .string (wordJ now used)] w' fun e wb => e = .returned (.int .i64 0) ∧ ((∀ o, wb.cell? ⟨p, o, none⟩ = w.cell? ⟨p, o, none⟩) ∧ wb.cell? ⟨X, 0, none⟩ = some (.int .i64 now) ∧ wb.cell? ⟨X, 1, none⟩ = some (.int .i64 used) ∧ wb.cell? ⟨X, 2, none⟩ = some (.int .u64 n)) ∧ ∃ v2, Dsk wb N q sv v2 S [(n % 2, putS n (wordJ now used))] ∧ TK w wb [58, 9, 117] ∧ Below N w wb := by
    intro w' hb'
    have hbw : Below w.heap.size w w' := hb1.trans (hb'.mono (by omega))
    have hd := h.dsk.below hbw
    have hXw : w'.heap[X]? = some (.cells #[.int .i64 now, .int .i64 used, .int .u64 n] 62) := (hb'.block X (by omega)).trans hx1
    have c := swrite 0 n (wordJ now used) w' N q sv _ S [] hd (by simp) (by omega) (by omega) (by omega) (by omega) (by omega)
    refine c.mono fun e wb hh => ?_
    obtain ⟨he, v2, hd2, hk⟩ := hh
    rw [List.nil_append, Nat.zero_add] at hd2
    have ht := hk.tk hd
    have hpw := (hbw.block p (lt_heap hpo)).trans hpo
    have hXb := ht X _ _ _ hXw (by decide)
    have hpb := ht p _ _ _ hpw (by decide)
    refine ⟨he, ⟨fun o => by simp [World.cell?, hpb, hpo], by simp [World.cell?, hXb], by simp [World.cell?, hXb], by simp [World.cell?, hXb]⟩, v2, hd2, (TK.of_below hbw _).trans ht, (hbw.mono h.dsk.le).trans hk.below⟩
  have cP : ∀ (k : Nat) w', k ≤ 1000000 → Calls Tryz.prog 73 #[.int .u64 k] w' fun e w'' => e = .returned (.string ⟨(putN k).toArray⟩) ∧ Below w'.heap.size w' w'' := fun k w' hk => by
    have := put_any (k : Int) w' ⟨by omega, by omega⟩
    rw [Int.toNat_natCast] at this
    exact this
  have cP1 := fun w' => cP now w' (by omega)
  have cP2 := fun w' => cP used w' h2
  have hwd : (⟨(putN now).toArray⟩ : ByteArray) ++ ⟨(putN used).toArray⟩ = wordJ now used := str_append _ _
  obtain ⟨P1, hP1⟩ : ∃ T : ByteArray, (⟨(putN now).toArray⟩ : ByteArray) = T := ⟨_, rfl⟩
  obtain ⟨P2, hP2⟩ : ∃ T : ByteArray, (⟨(putN used).toArray⟩ : ByteArray) = T := ⟨_, rfl⟩
  rw [hP1, hP2] at hwd
  rw [hP1] at cP1
  rw [hP2] at cP2
  have hsz : P1.size + P2.size ≤ 18 := by
    have := gw1
    rw [← hwd, ByteArray.size_append] at this
    exact this
  rw [← hwd] at cW ⊢
  have hu1 : IntKind.u64.wrap (now : Int) = now := by rw [IntKind.wrap_u64]; omega
  have hu2 : IntKind.u64.wrap (used : Int) = used := by rw [IntKind.wrap_u64]; omega
  have q1 : ¬ (9223372036854775807 < P1.size + P2.size) := by omega
  have q2 : P1.size + P2.size ≤ 9223372036854775807 := by omega
  have q3 : ((P1.size : Int) + (P2.size : Int)) ≤ 9223372036854775807 := by omega
  have HX := Lib.hid (And.intro hx1 (And.intro hb1 (And.intro hX hpo)))
  clear hP1 hP2 hwd gw1 gw2 cP hx1 hb1 hpo
  go_enter Tryz.func40, Tryz.ntmps40
  go_upto_region 1 with fail
  try simp only [hX]
  generalize w.alloc (.cells #[.int .i64 now, .int .i64 used, .int .u64 n] 62) = w1 at *
  have c0 : w1.cell? ⟨p, 0, none⟩ = some (.pointer (some ⟨q, 0, none⟩)) := (HX.out.2.1.cell (p := ⟨p, 0, none⟩) (by rw [hX]; exact hpX)).trans hp
  have x0 : w1.cell? ⟨X, 0, none⟩ = some (.int .i64 now) := by simp [World.cell?, HX.out.1]
  have x1 : w1.cell? ⟨X, 1, none⟩ = some (.int .i64 used) := by simp [World.cell?, HX.out.1]
  have x2 : w1.cell? ⟨X, 2, none⟩ = some (.int .u64 n) := by simp [World.cell?, HX.out.1]
  have hX1 : X + 1 ≤ w1.heap.size := lt_heap HX.out.1
  have SG : ∀ w', (Below (X + 1) w1 w' ∧ X + 1 ≤ w'.heap.size) → (∀ o, w'.cell? ⟨p, o, none⟩ = w.cell? ⟨p, o, none⟩) ∧ w'.cell? ⟨X, 0, none⟩ = some (.int .i64 now) ∧ w'.cell? ⟨X, 1, none⟩ = some (.int .i64 used) ∧ w'.cell? ⟨X, 2, none⟩ = some (.int .u64 n) := fun w' hG =>
    ⟨fun o => (hG.1.cell (p := ⟨p, o, none⟩) (show p < X + 1 by omega)).trans (HX.out.2.1.cell (p := ⟨p, o, none⟩) (by rw [hX]; exact hpX)), (hG.1.cell (p := ⟨X, 0, none⟩) (Nat.lt_succ_self X)).trans x0, (hG.1.cell (p := ⟨X, 1, none⟩) (Nat.lt_succ_self X)).trans x1, (hG.1.cell (p := ⟨X, 2, none⟩) (Nat.lt_succ_self X)).trans x2⟩
  have hG0 : Below (X + 1) w1 w1.drew ∧ X + 1 ≤ w1.drew.heap.size := ⟨(Below.refl _ _).drew, hX1⟩
  have GA : ∀ {w' w'' : World}, (Below (X + 1) w1 w' ∧ X + 1 ≤ w'.heap.size) → Below w'.heap.size w' w'' → (Below (X + 1) w1 w'' ∧ X + 1 ≤ w''.heap.size) := fun h hb => ⟨h.1.trans (hb.mono h.2), Nat.le_trans h.2 hb.size⟩
  clear hX1 hsz x0 x1 x2 c0
  go_region_held3 (fun w' => (∀ o, w'.cell? ⟨p, o, none⟩ = w.cell? ⟨p, o, none⟩) ∧ w'.cell? ⟨X, 0, none⟩ = some (.int .i64 now) ∧ w'.cell? ⟨X, 1, none⟩ = some (.int .i64 used) ∧ w'.cell? ⟨X, 2, none⟩ = some (.int .u64 n)) (first | exact hSB | exact SG _ hG0 | exact SG _ hG1 | exact SG _ hG2) (first | (go_at_call 73; (first | (with_reducible refine Calls.mono (cP1 _) ?_) | (with_reducible refine Calls.mono (cP2 _) ?_)); rintro e wk ⟨rfl, hbk⟩; (first | (have hG2 := GA hG1 hbk) | (have hG1 := GA hG0 hbk))) | (go_at_call 72; (with_reducible refine Calls.mono (cW _ hG2.1) ?_); rintro e wb ⟨rfl, hSB, hW⟩; have HW := Lib.hid hW))
  all_goals
    rename_i hfin
    clear hfin
    go_wp2_with fail
    go_returns
    exact ⟨rfl, HW.out⟩
end Go.Proofs.YtgnnijpfkgmomaaGreatDoor
/-
  journal: Sync.
-/


namespace Go.Proofs.YtgnnijpfkgmomaaGreatDoor
open Go.RowKit
set_option linter.unusedVariables false
set_option linter.unusedSimpArgs false

theorem lenJ_zero {os : List JO} (h : lenJ os = 0) : os = [] := by
  cases os with
  | nil => rfl
  | cons o os =>
    exfalso
    have h2 : lenJ (o :: os) = o.b.length + lenJ os := by unfold lenJ; rw [List.flatMap_cons, List.length_append]
    have h3 : 1 ≤ o.b.length := by unfold JO.b; split <;> simp
    omega
theorem jsync_nil (w : World) : Calls Tryz.prog 12 #[.pointer none] w fun e w' => e = .returned (.tuple #[]) ∧ w = w' := by
  go_enter Tryz.func12, Tryz.ntmps12
  go_wp2_with fail
  refine Calls.mono (jlater_nil _) ?_
  rintro e w1 ⟨rfl, rfl⟩
  go_wp2_with fail
  refine bodyPost_ret (v := .tuple #[]) (by simp [results, Tryz.results12, go_sem]) rfl ?_
  exact ⟨rfl, rfl⟩
/-- the object tells another row of later records -/
theorem jm_lv {w : World} {N p : Nat} {dv pv lv : Value} {sz now used told : Int} {l : List JP} (h : JM w N p dv pv sz lv now used told l) (lv' : Value) :
    JM (w.setCell ⟨p, 3, none⟩ lv') N p dv pv sz lv' now used told l ∧ OKept w (w.setCell ⟨p, 3, none⟩ lv') N p pv pv := by
  have hne := jm_ne h
  obtain ⟨hN, hp, hr0⟩ := h
  refine ⟨⟨hN, ?_, ?_⟩, ?_⟩
  · rw [heap_setCell_same _ _ _ _ _ _ hp]
    rfl
  · refine hr0.kept (row := some p) ⟨rfl, rfl, rfl, by simp, fun k hk hr => heap_setCell_other _ _ _ _ (fun e => hr (by rw [e]))⟩ (.inr hne)
  · have hb2 := (Below.refl N w).setCell (p := ⟨p, 3, none⟩) hN lv'
    exact ⟨hb2, by simp, fun k hk hkp hu => heap_setCell_other _ _ _ _ hkp, .inl rfl⟩
/-- what Sync leaves -/
def JSynced (w w' : World) (N p q : Nat) (pv : Value) (s : DS) (os : List JO) : Prop :=
  ∃ sv S a b last s' lv, JX w' N p q pv lv sv S a b last s' [] ∧ s'.n = s.n ∧ nowJ s' [] = nowJ s os ∧ s'.top ≤ s.top + 2 ∧ (0 < lenJ os → s.told = s.top → s'.told = s.told + 1 ∧ s'.top = s'.told) ∧ JKept w w' N pv pv
set_option maxHeartbeats 4000000 in
set_option maxRecDepth 100000 in
theorem jsync {w : World} {N p q : Nat} {pv lv sv : Value} {S : List ByteArray} {a b last : ByteArray} {s : DS} {os : List JO} (h : JX w N p q pv lv sv S a b last s os) (hl : lenJ os ≤ 900000) (hM : s.top ≤ 1000000) :
    Calls Tryz.prog 12 #[.pointer (some ⟨p, 0, none⟩)] w fun e w' => e = .returned (.tuple #[]) ∧ JSynced w w' N p q pv s os := by
  have cL := jlater h
  by_cases h0 : 0 < lenJ os
  · rw [decide_eq_true h0] at cL
    have cl := jlay h hl
    have HH := Lib.hid h
    obtain ⟨g1, g2, g3⟩ := nextP_gt a b s.told
    have HG := Lib.hid (And.intro g1 (And.intro g2 g3))
    have hone := nextP_one a b s.told s.top h.pd.pair.most h.pd.pair.at_le
    have HO := Lib.hid hone
    obtain ⟨n, hn⟩ : ∃ n, nextP a b s.told = n := ⟨_, rfl⟩
    rw [hn] at HG HO
    have HN := Lib.hid hn
    simp only [hn] at cl
    clear h g1 g2 g3 hone hn
    go_enter Tryz.func12, Tryz.ntmps12
    go_wp2_with fail
    refine Calls.mono cL ?_
    rintro e w1 ⟨rfl, rfl⟩
    go_wp2_with fail
    refine Calls.mono cl ?_
    rintro e w1 ⟨now', rs', L, lvd, rfl, hly, hd1, ht1, hb1⟩
    obtain ⟨us, hus⟩ : ∃ us, lenJ rs' = us := ⟨_, rfl⟩
    try simp only [hus]
    have h := HH.out
    have hj1 := h.jm.tk ht1 (by decide) (by decide)
    have hlr1 := owns_tk h.lr ht1 (by decide)
    have hx2 := heap_alloc_self w1 (.cells #[.int .i64 now', .int .i64 us, .int .u64 n] 62)
    have hb2 : Below w1.heap.size w1 (w1.alloc (.cells #[.int .i64 now', .int .i64 us, .int .u64 n] 62)) := (Below.refl _ _).alloc (Nat.le_refl _) _
    have hj2 := hj1.below hb2
    have hd2 := hd1.below hb2
    have hlr2 := owns_below hlr1 hb2
    have hN1 : N ≤ w1.heap.size := hd1.le
    have H2 := Lib.hid (And.intro hj2 (And.intro hlr2 (And.intro ((JKept.of_tk (pv := pv) hb1 ht1 (by decide)).trans (JKept.of_below hb2 hN1)) (And.intro hus hly))))
    have hlylen := hly.len
    have cs := dsync _ N q sv lvd S L hd2 hlylen
    obtain ⟨X, hX⟩ : ∃ X, w1.heap.size = X := ⟨_, rfl⟩
    rw [hX] at hx2
    have HX2 := Lib.hid hx2
    have HD2 := Lib.hid hd2
    have c0 : (w1.alloc (.cells #[.int .i64 now', .int .i64 us, .int .u64 n] 62)).cell? ⟨p, 0, none⟩ = some (.pointer (some ⟨q, 0, none⟩)) := (jm_cells hj2).1
    clear h hj1 hlr1 hx2 hb2 hj2 hd2 hlr2 hd1 ht1 hb1 hly hus hlylen cl cL hN1
    go_upto_region 2 with fail
    try simp only [hX]
    generalize w1.alloc (.cells #[.int .i64 now', .int .i64 us, .int .u64 n] 62) = w2 at *
    go_wp2_with fail
    refine Calls.mono cs ?_
    rintro e w3 ⟨rfl, hd3, hk3⟩
    have ht3 := hk3.tk HD2.out
    have hx3 := ht3 X _ _ _ HX2.out (by decide)
    have hj3 := H2.out.1.tk ht3 (by decide) (by decide)
    have hlr3 := owns_tk H2.out.2.1 ht3 (by decide)
    have hly := H2.out.2.2.2.2
    obtain ⟨e0, e1, hdx3⟩ := lyd_end hly HH.out.dx HH.out.pd.dsk.sizes HD2.out.ats (fun _ => 1)
    have hax := lyd_sync hly HH.out.dx HH.out.fit
    have hpd3 : PDsk w3 N q sv (syncS S L) a b s.told last s.top := ⟨hd3, e0.trans HH.out.pd.s0, e1.trans HH.out.pd.s1, HH.out.pd.pair, HH.out.pd.small⟩
    have y0 : w3.cell? ⟨X, 0, none⟩ = some (.int .i64 now') := by simp [World.cell?, hx3]
    have y1 : w3.cell? ⟨X, 1, none⟩ = some (.int .i64 us) := by simp [World.cell?, hx3]
    have y2 : w3.cell? ⟨X, 2, none⟩ = some (.int .u64 n) := by simp [World.cell?, hx3]
    have d0 : w3.cell? ⟨p, 0, none⟩ = some (.pointer (some ⟨q, 0, none⟩)) := (jm_cells hj3).1
    have hus := H2.out.2.2.2.1
    have hrb := hly.room
    have hmm : manyN s.n = (s.n - 2) / 2 := rfl
    have hmost := HH.out.dx.most
    have ct := jtell (now := now') (used := us) hpd3 hM hj3.2.1 d0 hly.now (by omega)
    rw [HN.out] at ct
    have H3 := Lib.hid (And.intro hj3 (And.intro hlr3 (And.intro (H2.out.2.2.1.trans (JKept.of_tk (pv := pv) hk3.below ht3 (by decide))) (And.intro hax (And.intro hdx3 (And.intro hpd3 hx3))))))
    clear hd3 hk3 ht3 hx3 hj3 hlr3 hly e0 e1 hdx3 hax hpd3 hus hrb hmm hmost cs c0
    go_wp2_with fail
    refine Calls.mono ct ?_
    rintro e w4 ⟨rfl, v2, hd4, ht4, hb4⟩
    have hx4 := ht4 X _ _ _ H3.out.2.2.2.2.2.2 (by decide)
    have hj4 := H3.out.1.tk ht4 (by decide) (by decide)
    have hlr4 := owns_tk H3.out.2.1 ht4 (by decide)
    have d0' : w4.cell? ⟨p, 0, none⟩ = some (.pointer (some ⟨q, 0, none⟩)) := (jm_cells hj4).1
    have cs2 := dsync _ N q sv v2 _ _ hd4 (by simp)
    have H4 := Lib.hid (And.intro hj4 (And.intro hlr4 (And.intro (H3.out.2.2.1.trans (JKept.of_tk (pv := pv) hb4 ht4 (by decide))) (And.intro hx4 hd4))))
    clear hd4 ht4 hb4 hx4 hj4 hlr4 ct y0 y1 y2 d0
    go_wp2_with fail
    refine Calls.mono cs2 ?_
    rintro e w5 ⟨rfl, hd5, hk5⟩
    have ht5 := hk5.tk H4.out.2.2.2.2
    have hx5 := ht5 X _ _ _ H4.out.2.2.2.1 (by decide)
    have hj5 := H4.out.1.tk ht5 (by decide) (by decide)
    have hlr5 := owns_tk H4.out.2.1 ht5 (by decide)
    have hkp5 := H4.out.2.2.1.trans (JKept.of_tk (pv := pv) hk5.below ht5 (by decide))
    have y0 : w5.cell? ⟨X, 0, none⟩ = some (.int .i64 now') := by simp [World.cell?, hx5]
    have y1 : w5.cell? ⟨X, 1, none⟩ = some (.int .i64 us) := by simp [World.cell?, hx5]
    have y2 : w5.cell? ⟨X, 2, none⟩ = some (.int .u64 n) := by simp [World.cell?, hx5]
    have d4 : ∃ v, w5.cell? ⟨p, 4, none⟩ = some v := ⟨_, by simp [World.cell?, hj5.2.1, jC]; rfl⟩
    have d5 : ∃ v, w5.cell? ⟨p, 5, none⟩ = some v := ⟨_, by simp [World.cell?, hj5.2.1, jC]; rfl⟩
    have d6 : ∃ v, w5.cell? ⟨p, 6, none⟩ = some v := ⟨_, by simp [World.cell?, hj5.2.1, jC]; rfl⟩
    obtain ⟨v4, d4⟩ := d4
    obtain ⟨v5, d5⟩ := d5
    obtain ⟨v6, d6⟩ := d6
    have f : ∀ o, w5.frozen? ⟨p, o, none⟩ = false := fun o => by simp [World.frozen?, hj5.2.1]
    obtain ⟨hj6, hk6⟩ := jm_stand hj5 now' us n
    have hne5 := row_other hlr5 hj5.2.1 (by decide)
    have hd5' : Dsk w5 N q sv (.slice none 0 0) (fateS (1 : Nat) (syncS S L) (n % 2, putS n (wordJ now' us))) [] := hd5
    have HD5 := Lib.hid hd5'
    have H6 := Lib.hid (And.intro hj6 (And.intro hk6 (And.intro hj5 (And.intro hlr5 hkp5))))
    clear hd5 hd5' hk5 ht5 hx5 hj5 hlr5 hkp5 hj6 hk6 hne5 cs2 d0'
    go_upto_region 6 with fail
    obtain ⟨hj6, hk6, hj5, hlr5, hkp5⟩ := H6.out
    generalize ((w5.setCell ⟨p, 4, none⟩ (.int .i64 now')).setCell ⟨p, 5, none⟩ (.int .i64 us)).setCell ⟨p, 6, none⟩ (.int .u64 n) = w6 at *
    obtain ⟨-, -, -, c3, -, -, f3⟩ := jm_cells hj6
    obtain ⟨hj7, hk7⟩ := jm_lv hj6 (.slice none 0 0)
    have ht6 := hk6.tk hj5.2.1 hj5.2.2
    have ht7 := ht6.trans (hk7.tk hj6.2.1 hj6.2.2)
    have hkk := (hkp5.trans (JKept.of_okept hk6 hj5.2.1)).trans (JKept.of_okept hk7 hj6.2.1)
    have H7 := Lib.hid (And.intro hj7 (And.intro ht7 hkk))
    clear hj6 hk6 hj5 hlr5 hkp5 hj7 hk7 ht6 ht7 hkk d4 d5 d6 f y0 y1 y2
    go_wp2_with fail
    refine bodyPost_end (results_none rfl _ _ _) rfl ?_
    obtain ⟨hj7, ht7, hkk⟩ := H7.out
    generalize w6.setCell ⟨p, 3, none⟩ (.slice none 0 0) = w7 at *
    obtain ⟨-, -, -, hax, hdx3, hpd3, -⟩ := H3.out
    obtain ⟨-, -, -, hus, hly⟩ := H2.out
    have hwl := word_le now' us hly.now (by have := hly.room; have : manyN s.n = (s.n - 2) / 2 := rfl; have := HH.out.dx.most; omega)
    have hnn := HN.out
    have hto := tell_out (word := wordJ now' us) (f := 1) (w' := w5) hpd3 hM (by omega) (by rw [hnn]; exact HD5.out)
    rw [hnn] at hto
    obtain ⟨a', b', ⟨-, hpd5⟩ | ⟨hf, -⟩⟩ := hto
    · have hlen : (syncS S L).length = S.length := end_length _ _ _ _
      have h6 := HH.out.dx.least
      have hl0 := HH.out.dx.len
      have hsame := tell_same (S := syncS S L) (n := n) (f := 1) (word := wordJ now' us) hpd3.dsk.sizes (by omega) (by omega)
      have hdx := dx_new (n := n) hdx3 hax hsame (fateS_length _ _ _) (by have := HG.out; omega) (show wordJ now' us = wordJ now' (lenJ rs') by rw [hus])
      have hnow : nowJ ⟨s.n, rs', now', n, n⟩ [] = nowJ s os := by unfold nowJ; rw [List.append_nil]; exact hly.run
      refine ⟨rfl, sv, _, a', b', _, ⟨s.n, rs', now', n, n⟩, .slice none 0 0, ⟨hpd5.tk ht7 (by decide) (by decide) (by decide), hdx, ?_, ⟨rfl, .inl ⟨rfl, rfl⟩⟩, (fun o ho => by cases ho), ?_⟩, rfl, hnow, ?_, fun _ hts => ?_, hkk⟩
      · rw [hnow]
        show JM w7 N p _ pv _ _ now' (lenJ rs') n _
        rw [hus]
        exact hj7
      · rw [hnow]
        exact HH.out.fit
      · have := HG.out.2.1
        have := HH.out.pd.pair.most
        show n ≤ s.top + 2
        omega
      · exact ⟨HO.out hts, rfl⟩
    · exact absurd rfl hf
  · have hos : os = [] := lenJ_zero (by omega)
    rw [decide_eq_false h0] at cL
    subst hos
    have HH := Lib.hid h
    clear h
    go_enter Tryz.func12, Tryz.ntmps12
    go_wp2_with fail
    refine Calls.mono cL ?_
    rintro e w1 ⟨rfl, rfl⟩
    go_wp2_with fail
    refine bodyPost_ret (v := .tuple #[]) (by simp [results, Tryz.results12, go_sem]) rfl ?_
    exact ⟨rfl, sv, S, a, b, last, s, lv, HH.out, rfl, rfl, by omega, fun h => absurd h h0, JKept.of_below (Below.refl _ _) HH.out.pd.dsk.le⟩
end Go.Proofs.YtgnnijpfkgmomaaGreatDoor
/-
  journal: Break.
-/

namespace Go.Proofs.YtgnnijpfkgmomaaGreatDoor
open Go.RowKit
set_option linter.unusedVariables false
set_option linter.unusedSimpArgs false

theorem jbreak_nil (st u : Int) (w : World) : Calls Tryz.prog 13 #[.pointer none, .int .i64 st, .int .u64 u] w fun e w' => e = .returned (.tuple #[]) ∧ w = w' := by
  go_enter Tryz.func13, Tryz.ntmps13
  go_wp2_with fail
  refine bodyPost_ret (v := .tuple #[]) (by simp [results, Tryz.results13, go_sem]) rfl ?_
  exact ⟨rfl, rfl⟩
abbrev tsB : List TypeId := [58, 9, 117, 62]
/-- all but the disk's own, and what was told, is as it was -/
structure BK (w w' : World) (N : Nat) : Prop where
  below : Below N w w'
  tk : TK w w' tsB
theorem BK.trans {a b c : World} {N : Nat} (h : BK a b N) (g : BK b c N) : BK a c N := ⟨h.below.trans g.below, h.tk.trans g.tk⟩
theorem BK.of_tk {w w' : World} {N : Nat} {ts : List TypeId} (hb : Below N w w') (hk : TK w w' ts) (hs : ∀ t ∈ ts, t ∈ tsB) : BK w w' N := ⟨hb, hk.mono hs⟩
theorem BK.of_below {w w' : World} {N : Nat} (hb : Below w.heap.size w w') (hN : N ≤ w.heap.size) : BK w w' N := ⟨hb.mono hN, TK.of_below hb _⟩
theorem BK.kept {w w' : World} {N : Nat} (h : BK w w' N) (pv : Value) : JKept w w' N pv pv := JKept.of_tk h.below h.tk (by decide)
/-- what Break leaves on the disk -/
def JBroken (w w' : World) (N q : Nat) (s : DS) (os : List JO) (st : Int) : Prop :=
  ∃ sv S a b last s', DR w' N q sv S a b last s' ∧ s'.n = s.n ∧ s'.top ≤ s.top + 2 ∧ (runJ [] s'.rs = runJ [] s.rs ∨ 3 ≤ st ∧ runJ [] s'.rs = nowJ s os) ∧ BK w w' N
theorem crash_nil (u : Nat) (S : List ByteArray) : crashS u S [] = S := rfl
set_option maxHeartbeats 4000000 in
set_option maxRecDepth 100000 in
theorem jbreak {w : World} {N p q : Nat} {pv lv sv : Value} {S : List ByteArray} {a b last : ByteArray} {s : DS} {os : List JO} (h : JX w N p q pv lv sv S a b last s os) (hl : lenJ os ≤ 900000) (hM : s.top ≤ 1000000) (st : Int) (u : Nat) (hu : u < 18446744073709551616) :
    Calls Tryz.prog 13 #[.pointer (some ⟨p, 0, none⟩), .int .i64 st, .int .u64 u] w fun e w' => e = .returned (.tuple #[]) ∧ JBroken w w' N q s os st := by
  have cL := jlater h
  by_cases h0 : 0 < lenJ os ∧ 1 ≤ st
  · obtain ⟨h0, h1⟩ := h0
    rw [decide_eq_true h0] at cL
    have cl := jlay h hl
    have HH := Lib.hid h
    obtain ⟨g1, g2, g3⟩ := nextP_gt a b s.told
    have HG := Lib.hid (And.intro g1 (And.intro g2 g3))
    obtain ⟨n, hn⟩ : ∃ n, nextP a b s.told = n := ⟨_, rfl⟩
    rw [hn] at HG
    have HN := Lib.hid hn
    simp only [hn] at cl
    clear h g1 g2 g3 hn
    go_enter Tryz.func13, Tryz.ntmps13
    go_wp2_with fail
    refine Calls.mono cL ?_
    rintro e w1 ⟨rfl, rfl⟩
    go_wp2_with fail
    refine Calls.mono cl ?_
    rintro e w1 ⟨now', rs', L, lvd, rfl, hly, hd1, ht1, hb1⟩
    obtain ⟨us, hus⟩ : ∃ us, lenJ rs' = us := ⟨_, rfl⟩
    try simp only [hus]
    have h := HH.out
    have hj1 := h.jm.tk ht1 (by decide) (by decide)
    have hx2 := heap_alloc_self w1 (.cells #[.int .i64 now', .int .i64 us, .int .u64 n] 62)
    have hb2 : Below w1.heap.size w1 (w1.alloc (.cells #[.int .i64 now', .int .i64 us, .int .u64 n] 62)) := (Below.refl _ _).alloc (Nat.le_refl _) _
    have hj2 := hj1.below hb2
    have hd2 := hd1.below hb2
    have hN1 : N ≤ w1.heap.size := hd1.le
    have H2 := Lib.hid (And.intro hj2 (And.intro ((BK.of_tk hb1 ht1 (by decide)).trans (BK.of_below hb2 hN1)) (And.intro hus hly)))
    have hlylen := hly.len
    obtain ⟨X, hX⟩ : ∃ X, w1.heap.size = X := ⟨_, rfl⟩
    rw [hX] at hx2
    have HX2 := Lib.hid hx2
    have HD2 := Lib.hid hd2
    have c0 : (w1.alloc (.cells #[.int .i64 now', .int .i64 us, .int .u64 n] 62)).cell? ⟨p, 0, none⟩ = some (.pointer (some ⟨q, 0, none⟩)) := (jm_cells hj2).1
    clear h hj1 hx2 hb2 hj2 hd2 hd1 ht1 hb1 hly hus cl cL hN1
    go_upto_region 3 with fail
    try simp only [hX]
    generalize w1.alloc (.cells #[.int .i64 now', .int .i64 us, .int .u64 n] 62) = w2 at *
    by_cases h2 : 2 ≤ st
    · have cs := dsync _ N q sv lvd S L HD2.out hlylen
      by_cases h3 : 3 ≤ st
      · go_wp2_with fail
        refine Calls.mono cs ?_
        rintro e w3 ⟨rfl, hd3, hk3⟩
        have ht3 := hk3.tk HD2.out
        have hx3 := ht3 X _ _ _ HX2.out (by decide)
        have hj3 := H2.out.1.tk ht3 (by decide) (by decide)
        have hly := H2.out.2.2.2
        obtain ⟨e0, e1, hdx3⟩ := lyd_end hly HH.out.dx HH.out.pd.dsk.sizes HD2.out.ats (fun _ => 1)
        have hax := lyd_sync hly HH.out.dx HH.out.fit
        have hpd3 : PDsk w3 N q sv (syncS S L) a b s.told last s.top := ⟨hd3, e0.trans HH.out.pd.s0, e1.trans HH.out.pd.s1, HH.out.pd.pair, HH.out.pd.small⟩
        have y0 : w3.cell? ⟨X, 0, none⟩ = some (.int .i64 now') := by simp [World.cell?, hx3]
        have y1 : w3.cell? ⟨X, 1, none⟩ = some (.int .i64 us) := by simp [World.cell?, hx3]
        have y2 : w3.cell? ⟨X, 2, none⟩ = some (.int .u64 n) := by simp [World.cell?, hx3]
        have d0 : w3.cell? ⟨p, 0, none⟩ = some (.pointer (some ⟨q, 0, none⟩)) := (jm_cells hj3).1
        have hus := H2.out.2.2.1
        have hrb := hly.room
        have hmm : manyN s.n = (s.n - 2) / 2 := rfl
        have hmost := HH.out.dx.most
        have ct := jtell (now := now') (used := us) hpd3 hM hj3.2.1 d0 hly.now (by omega)
        rw [HN.out] at ct
        have H3 := Lib.hid (And.intro hj3 (And.intro (H2.out.2.1.trans (BK.of_tk hk3.below ht3 (by decide))) (And.intro hax (And.intro hdx3 hpd3))))
        clear hd3 hk3 ht3 hx3 hj3 hly e0 e1 hdx3 hax hpd3 hus hrb hmm hmost cs c0
        go_wp2_with fail
        refine Calls.mono ct ?_
        rintro e w4 ⟨rfl, v2, hd4, ht4, hb4⟩
        have hj4 := H3.out.1.tk ht4 (by decide) (by decide)
        have d0' : w4.cell? ⟨p, 0, none⟩ = some (.pointer (some ⟨q, 0, none⟩)) := (jm_cells hj4).1
        have cc := dcrash u hu _ N q sv v2 _ _ hd4 (by simp)
        have H4 := Lib.hid (And.intro (H3.out.2.1.trans (BK.of_tk hb4 ht4 (by decide))) hd4)
        clear hd4 ht4 hb4 hj4 ct y0 y1 y2 d0
        go_wp2_with fail
        refine Calls.mono cc ?_
        rintro e w5 ⟨rfl, hd5, hk5⟩
        have hkp5 := H4.out.1.trans (BK.of_tk hk5.below (hk5.tk H4.out.2) (by decide))
        have hd5' : Dsk w5 N q sv (.slice none 0 0) (fateS (fateU u 0 : Nat) (syncS S L) (n % 2, putS n (wordJ now' us))) [] := hd5
        have H5 := Lib.hid (And.intro hkp5 hd5')
        clear hd5 hd5' hk5 hkp5 cc d0'
        go_wp2_with fail
        refine bodyPost_end (results_none rfl _ _ _) rfl ?_
        obtain ⟨hkk, hd5⟩ := H5.out
        obtain ⟨-, -, hax, hdx3, hpd3⟩ := H3.out
        obtain ⟨-, -, hus, hly⟩ := H2.out
        have hwl := word_le now' us hly.now (by have := hly.room; have : manyN s.n = (s.n - 2) / 2 := rfl; have := HH.out.dx.most; omega)
        have hnn := HN.out
        have hto := tell_out (word := wordJ now' us) (f := fateU u 0) (w' := w5) hpd3 hM (by omega) (by rw [hnn]; exact hd5)
        rw [hnn] at hto
        have hlen : (syncS S L).length = S.length := end_length _ _ _ _
        have h6 := HH.out.dx.least
        have hl0 := HH.out.dx.len
        have hsame := tell_same (S := syncS S L) (n := n) (f := fateU u 0) (word := wordJ now' us) hpd3.dsk.sizes (by omega) (by omega)
        have hnt : n ≤ s.top + 2 := by
          have := HG.out.2.1
          have := HH.out.pd.pair.most
          omega
        obtain ⟨a', b', ⟨-, hpd5⟩ | ⟨-, hpd5⟩⟩ := hto
        · have hdx := dx_new (n := n) hdx3 hax hsame (fateS_length _ _ _) (by have := HG.out; omega) (show wordJ now' us = wordJ now' (lenJ rs') by rw [hus])
          exact ⟨rfl, sv, _, a', b', _, ⟨s.n, rs', now', n, n⟩, ⟨hpd5, hdx⟩, rfl, hnt, .inr ⟨h3, hly.run⟩, hkk⟩
        · have hdx := dx_old hdx3 hsame (fateS_length _ _ _) n
          exact ⟨rfl, sv, _, a', b', _, ⟨s.n, s.rs, s.now, s.told, n⟩, ⟨hpd5, hdx⟩, rfl, hnt, .inl rfl, hkk⟩
      · go_wp2_with fail
        refine Calls.mono cs ?_
        rintro e w3 ⟨rfl, hd3, hk3⟩
        have ht3 := hk3.tk HD2.out
        have hj3 := H2.out.1.tk ht3 (by decide) (by decide)
        have hly := H2.out.2.2.2
        obtain ⟨e0, e1, hdx3⟩ := lyd_end hly HH.out.dx HH.out.pd.dsk.sizes HD2.out.ats (fun _ => 1)
        have d0 : w3.cell? ⟨p, 0, none⟩ = some (.pointer (some ⟨q, 0, none⟩)) := (jm_cells hj3).1
        have cc := dcrash u hu _ N q sv _ _ [] hd3 (by simp)
        have H3 := Lib.hid (And.intro (H2.out.2.1.trans (BK.of_tk hk3.below ht3 (by decide))) (And.intro hdx3 (And.intro (e0.trans HH.out.pd.s0) (And.intro (e1.trans HH.out.pd.s1) hd3))))
        clear hd3 hk3 ht3 hj3 hly e0 e1 hdx3 cs c0
        go_wp2_with fail
        refine Calls.mono cc ?_
        rintro e w5 ⟨rfl, hd5, hk5⟩
        have H5 := Lib.hid (And.intro (H3.out.1.trans (BK.of_tk hk5.below (hk5.tk H3.out.2.2.2.2) (by decide))) hd5)
        clear hd5 hk5 cc d0
        go_wp2_with fail
        refine bodyPost_end (results_none rfl _ _ _) rfl ?_
        obtain ⟨hkk, hd5⟩ := H5.out
        obtain ⟨-, hdx3, e0, e1, -⟩ := H3.out
        exact ⟨rfl, sv, _, a, b, last, s, ⟨⟨hd5, e0, e1, HH.out.pd.pair, HH.out.pd.small⟩, hdx3⟩, rfl, by omega, .inl rfl, hkk⟩
    · have h3 : ¬ 3 ≤ st := by omega
      have cc := dcrash u hu _ N q sv lvd S L HD2.out hlylen
      go_wp2_with fail
      refine Calls.mono cc ?_
      rintro e w5 ⟨rfl, hd5, hk5⟩
      obtain ⟨e0, e1, hdx3⟩ := lyd_end H2.out.2.2.2 HH.out.dx HH.out.pd.dsk.sizes HD2.out.ats (fun j => (fateU u j : Nat))
      have H5 := Lib.hid (And.intro (H2.out.2.1.trans (BK.of_tk hk5.below (hk5.tk HD2.out) (by decide))) (And.intro hd5 (And.intro hdx3 (And.intro (e0.trans HH.out.pd.s0) (e1.trans HH.out.pd.s1)))))
      clear hd5 hk5 cc hdx3 e0 e1
      go_wp2_with fail
      refine bodyPost_end (results_none rfl _ _ _) rfl ?_
      obtain ⟨hkk, hd5, hdx3, e0, e1⟩ := H5.out
      exact ⟨rfl, sv, _, a, b, last, s, ⟨⟨hd5, e0, e1, HH.out.pd.pair, HH.out.pd.small⟩, hdx3⟩, rfl, by omega, .inl rfl, hkk⟩
  · have HH := Lib.hid h
    have cc := dcrash u hu w N q sv _ S [] h.pd.dsk (by simp)
    have c0 : w.cell? ⟨p, 0, none⟩ = some (.pointer (some ⟨q, 0, none⟩)) := (jm_cells h.jm).1
    obtain ⟨lb, hlb⟩ : ∃ lb, decide (0 < lenJ os) = lb := ⟨_, rfl⟩
    rw [hlb] at cL
    have hgo : ∀ (e : Ending) (w5 : World), e = .returned (.tuple #[]) ∧ Dsk w5 N q sv (.slice none 0 0) (crashS u S []) [] ∧ DKept w w5 N q sv (.slice none 0 0) (.slice none 0 0) → JBroken w w5 N q s os st := by
      rintro e w5 ⟨-, hd5, hk5⟩
      exact ⟨sv, S, a, b, last, s, ⟨⟨hd5, HH.out.pd.s0, HH.out.pd.s1, HH.out.pd.pair, HH.out.pd.small⟩, HH.out.dx⟩, rfl, by omega, .inl rfl, BK.of_tk hk5.below (hk5.tk HH.out.pd.dsk) (by decide)⟩
    have HGO := Lib.hid hgo
    clear h hgo
    cases lb with
    | true =>
      have h1 : ¬ (1 : Int) ≤ st := fun h1 => h0 ⟨of_decide_eq_true hlb, h1⟩
      clear h0 hlb
      go_enter Tryz.func13, Tryz.ntmps13
      go_wp2_with fail
      refine Calls.mono cL ?_
      rintro e w1 ⟨rfl, rfl⟩
      go_wp2_with fail
      refine Calls.mono cc ?_
      rintro e w5 hh
      have hr := HGO.out _ _ hh
      obtain ⟨rfl, -⟩ := hh
      have HR := Lib.hid hr
      clear hr cc cL
      go_wp2_with fail
      refine bodyPost_end (results_none rfl _ _ _) rfl ?_
      exact ⟨rfl, HR.out⟩
    | false =>
      clear h0 hlb
      go_enter Tryz.func13, Tryz.ntmps13
      go_wp2_with fail
      refine Calls.mono cL ?_
      rintro e w1 ⟨rfl, rfl⟩
      go_wp2_with fail
      refine Calls.mono cc ?_
      rintro e w5 hh
      have hr := HGO.out _ _ hh
      obtain ⟨rfl, -⟩ := hh
      have HR := Lib.hid hr
      clear hr cc cL
      go_wp2_with fail
      refine bodyPost_end (results_none rfl _ _ _) rfl ?_
      exact ⟨rfl, HR.out⟩
end Go.Proofs.YtgnnijpfkgmomaaGreatDoor
/-
  The waking call of layer 7.
-/


namespace Go.Proofs.YtgnnijpfkgmomaaGreatDoor
open Go.RowKit
set_option linter.unusedVariables false
set_option linter.unusedSimpArgs false

theorem recS_add (p : JP) (hk : p.k.size ≤ 1073741824) (hv : p.v.size ≤ 1073741824) : (recS p).size ≤ 19 + p.k.size + p.v.size := by
  rw [recS_len]
  unfold JO.b
  have g1 := textL_len p.k hk
  have g2 := textL_len p.v hv
  rw [if_neg (by simp)]
  simp only [List.length_cons, List.length_append]
  omega
/-- a disk that is new holds an empty journal -/
theorem dr_fresh {w : World} {N q n : Nat} {sv : Value} (h : Dsk w N q sv (.slice none 0 0) (freshS n) []) (h6 : 6 ≤ n) (h1 : n ≤ 1000) : DR w N q sv (freshS n) (zeroL 64) (zeroL 64) ⟨#[]⟩ ⟨n, [], 0, 0, 0⟩ :=
  ⟨fresh_pdsk h (by omega), ⟨freshS_length n, h6, h1, by show 0 ≤ 1; omega, fun _ => ⟨rfl, rfl⟩, fun h => absurd h (Nat.lt_irrefl 0), fun j hj => absurd hj (Nat.not_lt_zero j), Nat.zero_le _, (fun o ho => by cases ho), Nat.zero_le _⟩⟩
theorem JX.dr {w : World} {N p q : Nat} {pv lv sv : Value} {S : List ByteArray} {a b last : ByteArray} {s : DS} {os : List JO} (h : JX w N p q pv lv sv S a b last s os) : DR w N q sv S a b last s := ⟨h.pd, h.dx⟩
theorem nowJ_fresh (n : Nat) : nowJ ⟨n, [], 0, 0, 0⟩ [] = [] := rfl
theorem set_nil (k v : ByteArray) : setK [] k v = [⟨k, v⟩] := rfl
theorem lenJ_one (o : JO) : lenJ [o] = o.b.length := by simp [lenJ]
theorem ix_one (k v : ByteArray) : ([⟨k, v⟩] : List JP)[ixK [⟨k, v⟩] k]? = some ⟨k, v⟩ := by
  have : ahK [⟨k, v⟩] k = [] := by
    unfold ahK
    rw [List.filter_cons, if_neg (by rw [ltK_irr]; simp)]
    rfl
  unfold ixK
  rw [this]
  rfl
theorem ltK_nil (k : ByteArray) : ltK k ⟨#[]⟩ = false := by
  unfold ltK
  rw [ByteArray.toList_eq, ByteArray.toList_eq]
  show Op.bytesLess k.data.toList [] = false
  cases k.data.toList <;> rfl
set_option maxHeartbeats 1600000 in
set_option maxRecDepth 100000 in
theorem awake07 (w : World) : Calls Tryz.prog 8 #[] w fun e w' => e = .returned (.bool true) ∧ Below w.heap.size w w' := by
  have cn := dnew 20 w (by omega) (by omega)
  have hsz1 : (⟨#[97]⟩ : ByteArray).size = 1 := rfl
  have hsz2 : (⟨#[49]⟩ : ByteArray).size = 1 := rfl
  have hmay : mayK ⟨#[97]⟩ = true := rfl
  have heq : ((⟨#[49]⟩ : ByteArray).toList == (⟨#[49]⟩ : ByteArray).toList) = true := by simp
  obtain ⟨K, hK⟩ : ∃ K : ByteArray, (⟨#[97]⟩ : ByteArray) = K := ⟨_, rfl⟩
  obtain ⟨V, hV⟩ : ∃ V : ByteArray, (⟨#[49]⟩ : ByteArray) = V := ⟨_, rfl⟩
  have HK := Lib.hid hK
  have HV := Lib.hid hV
  rw [hK] at hsz1 hmay
  rw [hV] at hsz2
  have hrl := recS_add ⟨K, V⟩ (by show K.size ≤ _; omega) (by show V.size ≤ _; omega)
  have hrl' : (recS ⟨K, V⟩).size ≤ 19 + K.size + V.size := hrl
  have hrl2 := recS_len ⟨K, V⟩
  clear hK hV hrl
  go_enter Tryz.func8, Tryz.ntmps8
  go_wp2_with fail
  refine Calls.mono cn ?_
  rintro e w1 ⟨q, sv, rfl, hd, hb1⟩
  have hdr := dr_fresh hd (by omega) (by omega)
  have co := jopen hdr
  have HB1 := Lib.hid hb1
  clear cn hd hdr hb1
  go_wp2_with fail
  refine Calls.mono co ?_
  rintro e w2 ⟨p, pv, rfl, hx2, -, hb2⟩
  have HB2 := Lib.hid (HB1.out.trans (hb2.mono HB1.out.size))
  have cp := jput_some hx2 K V hmay (by omega) (by simp [lenJ])
  rw [nowJ_fresh, set_nil] at cp
  clear co hx2 hb2
  go_wp2_with fail
  rw [HK.out, HV.out]
  refine Calls.mono cp ?_
  rintro e w3 ⟨r, rfl, h1, -⟩
  obtain ⟨rfl, pv3, lv3, hx3, hk3⟩ := h1 (by
    rw [show sizeJ [⟨K, V⟩] = (recS ⟨K, V⟩).size by rw [sizeJ_cons]; rfl]
    show _ ≤ 64 * ((20 - 2) / 2)
    omega)
  have HB3 := Lib.hid (HB2.out.trans hk3.below)
  have hnow : nowJ ⟨20, [], 0, 0, 0⟩ ([] ++ [⟨K, V, false⟩]) = [⟨K, V⟩] := rfl
  have cs := jsync hx3 (by rw [List.nil_append, lenJ_one]; have : (JO.b ⟨K, V, false⟩).length = (recS ⟨K, V⟩).size := hrl2.symm; omega) (by show 0 ≤ 1000000; omega)
  clear cp hx3 hk3 h1
  go_wp2_with fail
  refine Calls.mono cs ?_
  rintro e w4 ⟨rfl, sv4, S4, a4, b4, last4, s4, lv4, hx4, hn4, hnow4, -, -, hk4⟩
  rw [hnow] at hnow4
  have HB4 := Lib.hid (HB3.out.trans hk4.below)
  have co := jopen hx4.dr
  have HNOW := Lib.hid hnow4
  clear cs hx4 hk4 hnow hnow4 hn4
  go_wp2_with fail
  refine Calls.mono co ?_
  rintro e w5 ⟨p5, pv5, rfl, hx5, -, hb5⟩
  have HB5 := Lib.hid (HB4.out.trans (hb5.mono HB4.out.size))
  have cg := jget_yes hx5 K V (by rw [HNOW.out]; exact ix_one K V)
  clear co hx5 hb5
  go_wp2_with fail
  rw [HK.out]
  refine Calls.mono cg ?_
  rintro e w6 ⟨rfl, hb6⟩
  have HB6 := Lib.hid (HB5.out.trans (hb6.mono HB5.out.size))
  clear cg hb6
  rw [← HV.out]
  go_wp2_with fail
  go_returns
  exact ⟨rfl, HB6.out⟩
end Go.Proofs.YtgnnijpfkgmomaaGreatDoor
