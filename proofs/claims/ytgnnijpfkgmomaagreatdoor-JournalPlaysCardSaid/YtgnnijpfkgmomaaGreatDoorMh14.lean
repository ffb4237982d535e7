/-
  Several texts, laid together.
-/
import Derived.Test.YtgnnijpfkgmomaaGreatDoorMh12
import Derived.Test.YtgnnijpfkgmomaaGreatDoorMh13
import Derived.Test.YtgnnijpfkgmomaaGreatDoorMh11
import Derived.Test.YtgnnijpfkgmomaaGreatDoorMh4
import Derived.Deep.RegionLaw
/-
  A journal on its disk: what lies in memory and on the disk, and what its changes leave.
-/



namespace Go.Proofs.YtgnnijpfkgmomaaGreatDoor
open Go.RowKit
set_option linter.unusedVariables false
set_option linter.unusedSimpArgs false

/-- all blocks of other types than these stay as they are -/
def TK (w w' : World) (ts : List TypeId) : Prop := ∀ (k : Nat) (c : Array Value) (t : TypeId) (z : Nat × Nat), w.heap[k]? = some (.cells c t z) → t ∉ ts → w'.heap[k]? = some (.cells c t z)
theorem TK.trans {a b c : World} {ts : List TypeId} (h : TK a b ts) (g : TK b c ts) : TK a c ts := fun k cs t z hk ht => g k cs t z (h k cs t z hk ht) ht
theorem TK.of_below {w w' : World} (h : Below w.heap.size w w') (ts : List TypeId) : TK w w' ts := fun k c t z hk _ => (h.block k (lt_heap hk)).trans hk
theorem owns_tk {w w' : World} {N size n : Nat} {e : TypeId} {v : Value} {xs : List Value} {ts : List TypeId} (h : w.ownsRow N e size v n xs) (hk : TK w w' ts) (ht : e ∉ ts) : w'.ownsRow N e size v n xs := by
  refine ⟨h.1, h.2.imp id ?_⟩
  rintro ⟨g, cap, cur, e1, hN, hg, r⟩
  exact ⟨g, cap, cur, e1, hN, hk g _ _ _ hg ht, r⟩
theorem OKept.tk {w w' : World} {N p n : Nat} {pv pv' : Value} {cs : Array Value} {xs : List Value} (h : OKept w w' N p pv pv') (hp : w.heap[p]? = some (.cells cs 64)) (hr : w.ownsRow N 43 2 pv n xs) : TK w w' [64, 43] := by
  intro k c t z hk ht
  refine (h.block k (lt_heap hk) (fun e => ?_) (fun e => ?_)).trans hk
  · subst e
    rw [hp] at hk
    injection hk with hk
    injection hk with _ h2
    exact ht (by rw [← h2]; simp)
  · exact row_other hr hk (fun e => ht (by rw [e]; simp)) e.symm
theorem DKept.tk {w w' : World} {N q : Nat} {sv lv lv2 : Value} {S : List ByteArray} {L : List (Nat × ByteArray)} (h : DKept w w' N q sv lv lv2) (hd : Dsk w N q sv lv S L) : TK w w' [58, 9, 117] := by
  intro k c t z hk ht
  refine (h.block k (lt_heap hk) (fun e => ?_) (fun e => ?_) (fun e => ?_)).trans hk
  · subst e
    have := hd.obj
    rw [hk] at this
    injection this with this
    injection this with _ h2
    exact ht (by rw [h2]; simp)
  · exact row_other hd.sure hk (fun e => ht (by rw [e]; simp)) e.symm
  · exact row_other hd.later hk (fun e => ht (by rw [e]; simp)) e.symm
theorem JM.tk {w w' : World} {N p : Nat} {dv pv lv : Value} {sz now used told : Int} {l : List JP} {ts : List TypeId} (h : JM w N p dv pv sz lv now used told l) (hk : TK w w' ts) (h1 : 64 ∉ ts) (h2 : 43 ∉ ts) : JM w' N p dv pv sz lv now used told l :=
  ⟨h.1, hk p _ _ _ h.2.1 h1, owns_tk h.2.2 hk h2⟩
theorem Dsk.tk {w w' : World} {N q : Nat} {sv lv : Value} {S : List ByteArray} {L : List (Nat × ByteArray)} {ts : List TypeId} (h : Dsk w N q sv lv S L) (hk : TK w w' ts) (h1 : 58 ∉ ts) (h2 : 9 ∉ ts) (h3 : 117 ∉ ts) : Dsk w' N q sv lv S L :=
  ⟨h.hp, hk q _ _ _ h.obj h1, owns_tk h.sure hk h2, owns_tk h.later hk h3, h.sizes, h.ats, h.most⟩
theorem PDsk.tk {w w' : World} {N q at' M : Nat} {sv : Value} {S : List ByteArray} {a b last : ByteArray} {ts : List TypeId} (h : PDsk w N q sv S a b at' last M) (hk : TK w w' ts) (h1 : 58 ∉ ts) (h2 : 9 ∉ ts) (h3 : 117 ∉ ts) : PDsk w' N q sv S a b at' last M :=
  ⟨h.dsk.tk hk h1 h2 h3, h.s0, h.s1, h.pair, h.small⟩
/-- what a journal's change leaves of what is not its own: pairs above all -/
structure JKept (w w' : World) (N : Nat) (pv pv' : Value) : Prop where
  below : Below N w w'
  size : w.heap.size ≤ w'.heap.size
  rows : ∀ (k : Nat) (c : Array Value) (z : Nat × Nat), w.heap[k]? = some (.cells c 43 z) → some k ≠ pv.ownBlock → w'.heap[k]? = some (.cells c 43 z)
  new : NewRow w pv pv'
theorem JKept.trans {a b c : World} {N : Nat} {u v x : Value} (h : JKept a b N u v) (g : JKept b c N v x) : JKept a c N u x := by
  refine ⟨h.below.trans g.below, Nat.le_trans h.size g.size, fun k cs z hk hu => ?_, h.new.trans g.new h.size⟩
  refine g.rows k cs z (h.rows k cs z hk hu) fun e => ?_
  rcases h.new with hn | hn
  · exact hu (e.trans hn)
  · have := hn k e.symm
    have := lt_heap hk
    omega
theorem JKept.of_okept {w w' : World} {N p : Nat} {pv pv' : Value} {cs : Array Value} (h : OKept w w' N p pv pv') (hp : w.heap[p]? = some (.cells cs 64)) : JKept w w' N pv pv' := by
  refine ⟨h.below, h.size, fun k c z hk hu => (h.block k (lt_heap hk) (fun e => ?_) hu).trans hk, h.new⟩
  subst e
  rw [hp] at hk
  injection hk with hk
  injection hk with _ h2
  exact absurd h2 (by decide)
theorem JKept.of_tk {w w' : World} {N : Nat} {pv : Value} {ts : List TypeId} (hb : Below N w w') (hk : TK w w' ts) (ht : 43 ∉ ts) : JKept w w' N pv pv :=
  ⟨hb, hb.size, fun k c z hc _ => hk k c _ z hc ht, .inl rfl⟩
theorem JKept.of_below {w w' : World} {N : Nat} {pv : Value} (hb : Below w.heap.size w w') (hN : N ≤ w.heap.size) : JKept w w' N pv pv :=
  ⟨hb.mono hN, hb.size, fun k c z hc _ => (hb.block k (lt_heap hc)).trans hc, .inl rfl⟩
/-- a row of pairs that is none of the journal's -/
def MRow (w : World) (N : Nat) (pv mv : Value) (l : List JP) : Prop := w.ownsRow N 43 2 mv l.length (pCells l) ∧ (mv.ownBlock = none ∨ mv.ownBlock ≠ pv.ownBlock)
theorem MRow.kept {w w' : World} {N : Nat} {pv pv' mv : Value} {l : List JP} (h : MRow w N pv mv l) (hk : JKept w w' N pv pv') : MRow w' N pv' mv l := by
  obtain ⟨h1, h2⟩ := h
  have hlt := h1.lt
  refine ⟨⟨h1.1, ?_⟩, ?_⟩
  · refine h1.2.imp id ?_
    rintro ⟨g, cap, cur, e1, hN, hg, r⟩
    refine ⟨g, cap, cur, e1, hN, hk.rows g _ _ hg (fun e => ?_), r⟩
    have hb : mv.ownBlock = some g := by rw [e1]; rfl
    rcases h2 with h2 | h2
    · rw [hb] at h2; cases h2
    · exact h2 (hb.trans e)
  · cases hm : mv.ownBlock with
    | none => exact .inl rfl
    | some b =>
      refine .inr fun e => ?_
      rcases hk.new with hn | hn
      · rcases h2 with h2 | h2
        · rw [hm] at h2; cases h2
        · exact h2 (hm.trans (e.trans hn))
      · have h3 := hn b e.symm
        have h4 := (hlt b hm).2
        omega
/-- how it stands on the disk: its sectors, the records of the area that is written, which one that is, the number with which that was told, and the greatest number there is -/
structure DS where
  n : Nat
  rs : List JO
  now : Nat
  told : Nat
  top : Nat
def lenJ (rs : List JO) : Nat := (rs.flatMap JO.b).length
def manyN (n : Nat) : Nat := (n - 2) / 2
def wordJ (now used : Nat) : ByteArray := ⟨(putN now ++ putN used).toArray⟩
structure DX (S : List ByteArray) (s : DS) (last : ByteArray) : Prop where
  len : S.length = s.n
  least : 6 ≤ s.n
  most : s.n ≤ 1000
  now : s.now ≤ 1
  zero : s.told = 0 → s.rs = [] ∧ s.now = 0
  word : 0 < s.told → last = padS (wordJ s.now (lenJ s.rs))
  bytes : ∀ j, j < lenJ s.rs → flatD S [] (64 * (2 + s.now * manyN s.n) + j) = (s.rs.flatMap JO.b).getD j 0
  room : lenJ s.rs ≤ 64 * manyN s.n
  ok : ∀ o ∈ s.rs, o.ok
  fit : sizeJ (runJ [] s.rs) ≤ 64 * manyN s.n
def nowJ (s : DS) (os : List JO) : List JP := runJ [] (s.rs ++ os)
structure JX (w : World) (N p q : Nat) (pv lv sv : Value) (S : List ByteArray) (a b last : ByteArray) (s : DS) (os : List JO) : Prop where
  pd : PDsk w N q sv S a b s.told last s.top
  dx : DX S s last
  jm : JM w N p (.pointer (some ⟨q, 0, none⟩)) pv (sizeJ (nowJ s os)) lv s.now (lenJ s.rs) s.told (nowJ s os)
  lr : w.ownsRow N 5 1 lv (lenJ os) (bCells (os.flatMap JO.b))
  ok : ∀ o ∈ os, o.ok
  fit : sizeJ (nowJ s os) ≤ 64 * manyN s.n
theorem JX.below {w w' : World} {N p q : Nat} {pv lv sv : Value} {S : List ByteArray} {a b last : ByteArray} {s : DS} {os : List JO} (h : JX w N p q pv lv sv S a b last s os) (hb : Below w.heap.size w w') : JX w' N p q pv lv sv S a b last s os :=
  ⟨h.pd.below hb, h.dx, h.jm.below hb, owns_below h.lr hb, h.ok, h.fit⟩
theorem JX.drew {w : World} {N p q : Nat} {pv lv sv : Value} {S : List ByteArray} {a b last : ByteArray} {s : DS} {os : List JO} (h : JX w N p q pv lv sv S a b last s os) : JX w.drew N p q pv lv sv S a b last s os :=
  ⟨⟨h.pd.dsk.drewN 1, h.pd.s0, h.pd.s1, h.pd.pair, h.pd.small⟩, h.dx, h.jm.drew, h.lr, h.ok, h.fit⟩
theorem srt_nil : Srt [] := List.Pairwise.nil
theorem JX.srt {w : World} {N p q : Nat} {pv lv sv : Value} {S : List ByteArray} {a b last : ByteArray} {s : DS} {os : List JO} (h : JX w N p q pv lv sv S a b last s os) : Srt (nowJ s os) := srt_run _ _ srt_nil
theorem len_sizeJ : ∀ l : List JP, l.length ≤ sizeJ l
  | [] => Nat.zero_le _
  | p :: l => by
    have h := len_sizeJ l
    have h2 : 1 ≤ (recS p).size := by
      show 1 ≤ (JO.b ⟨p.k, p.v, false⟩).toArray.size
      rw [List.size_toArray]
      unfold JO.b
      rw [if_neg (by simp)]
      simp
    rw [sizeJ_cons, List.length_cons]
    omega
theorem JX.oks {w : World} {N p q : Nat} {pv lv sv : Value} {S : List ByteArray} {a b last : ByteArray} {s : DS} {os : List JO} (h : JX w N p q pv lv sv S a b last s os) : ∀ x ∈ nowJ s os, 1 ≤ x.k.size ∧ x.k.size ≤ 32 ∧ x.v.size ≤ 8192 := by
  refine run_ok (fun o ho => ?_) (fun p hp => by cases hp)
  rcases List.mem_append.1 ho with ho | ho
  · exact h.dx.ok o ho
  · exact h.ok o ho
theorem JX.many {w : World} {N p q : Nat} {pv lv sv : Value} {S : List ByteArray} {a b last : ByteArray} {s : DS} {os : List JO} (h : JX w N p q pv lv sv S a b last s os) : 2 ≤ manyN s.n ∧ manyN s.n ≤ 499 ∧ 2 + 2 * manyN s.n ≤ s.n ∧ sizeJ (nowJ s os) ≤ 31936 ∧ (nowJ s os).length ≤ 31936 := by
  have h1 := h.dx.least
  have h2 := h.dx.most
  have h3 := h.fit
  have h4 := len_sizeJ (nowJ s os)
  have h5 : manyN s.n = (s.n - 2) / 2 := rfl
  omega
end Go.Proofs.YtgnnijpfkgmomaaGreatDoor
/-
  journal: mayKey, area, room, Later, Used, Get.
-/


namespace Go.Proofs.YtgnnijpfkgmomaaGreatDoor
open Go.RowKit
set_option linter.unusedVariables false
set_option linter.unusedSimpArgs false

def mayK (k : ByteArray) : Bool := decide (1 ≤ k.size) && decide (k.size ≤ 32)
theorem jmay (k : ByteArray) (w : World) : Calls Tryz.prog 35 #[.string k] w fun e w' => e = .returned (.bool (mayK k)) ∧ w = w' := by
  by_cases h0 : k.size = 0
  · obtain rfl : k = ⟨#[]⟩ := by
      cases k with
      | mk d => congr 1; exact Array.eq_empty_of_size_eq_zero h0
    go_enter Tryz.func35, Tryz.ntmps35
    go_wp2_with fail
    go_returns
    exact ⟨rfl, rfl⟩
  · have hne := str_ne h0
    by_cases h1 : k.size ≤ 32
    · have e : mayK k = true := by unfold mayK; simp [h1]; omega
      have h1i : (k.size : Int) ≤ 32 := by omega
      rw [e]
      go_enter Tryz.func35, Tryz.ntmps35
      go_wp2_with fail
      go_returns
      exact ⟨rfl, rfl⟩
    · have e : mayK k = false := by unfold mayK; simp [h1]
      have h1i : ¬ (k.size : Int) ≤ 32 := by omega
      rw [e]
      go_enter Tryz.func35, Tryz.ntmps35
      go_wp2_with fail
      go_returns
      exact ⟨rfl, rfl⟩
theorem jarea (w : World) (N p q k n : Nat) (sv lvd : Value) (S : List ByteArray) (L : List (Nat × ByteArray)) (hp : w.cell? ⟨p, 0, none⟩ = some (.pointer (some ⟨q, 0, none⟩))) (hd : Dsk w N q sv lvd S L) (hn : S.length = n) (h6 : 2 ≤ n) (hk : k ≤ 1) :
    Calls Tryz.prog 29 #[.pointer (some ⟨p, 0, none⟩), .int .i64 k] w fun e w' => e = .returned (areaV ((2 + k * manyN n : Nat) : Int) ((manyN n : Nat) : Int)) ∧ Below w.heap.size w w' := by
  have hm := hd.most
  rw [hn] at hm
  have hx := heap_alloc_self w (.cells #[.int .i64 0, .int .i64 0] 72)
  have hb0 : Below w.heap.size w (w.alloc (.cells #[.int .i64 0, .int .i64 0] 72)) := (Below.refl _ _).alloc (Nat.le_refl _) _
  have hp0 : (w.alloc (.cells #[.int .i64 0, .int .i64 0] 72)).cell? ⟨p, 0, none⟩ = some (.pointer (some ⟨q, 0, none⟩)) := (World.cell?_alloc_lt w _ ⟨p, 0, none⟩ (World.block_lt_of_cell? _ _ hp)).trans hp
  have hd0 := hd.below hb0
  obtain ⟨X, hX⟩ : ∃ X, w.heap.size = X := ⟨_, rfl⟩
  have cs := dsectors _ N q sv lvd S L hd0
  rw [hn] at cs
  rw [hX] at hx hb0 ⊢
  obtain ⟨m, hmm⟩ : ∃ m, manyN n = m := ⟨_, rfl⟩
  have hmd : (((n : Nat) : Int) - 2) / 2 = (m : Int) := by rw [← hmm]; unfold manyN; omega
  have hm3 : m ≤ 2048 := by rw [← hmm]; unfold manyN; omega
  have hkm : k * m ≤ 2048 := by
    have : k = 0 ∨ k = 1 := by omega
    rcases this with rfl | rfl <;> omega
  have hkmi : (k : Int) * (m : Int) = ((k * m : Nat) : Int) := by simp
  rw [hmm]
  obtain ⟨z, hz⟩ : ∃ z, k * m = z := ⟨_, rfl⟩
  rw [hz] at hkm hkmi ⊢
  have HB := Lib.hid hb0
  clear hd0 hd hp hn hmm hz hm
  go_enter Tryz.func29, Tryz.ntmps29
  go_upto_region 1 with fail
  try simp only [hX]
  generalize w.alloc (.cells #[.int .i64 0, .int .i64 0] 72) = w1 at *
  have xf : ∀ o, w1.frozen? ⟨X, o, none⟩ = false := fun o => by simp [World.frozen?, hx]
  have hXl := lt_heap hx
  have x0 : w1.cell? ⟨X, 0, none⟩ = some (.int .i64 0) := by simp [World.cell?, hx]
  have x1 : w1.cell? ⟨X, 1, none⟩ = some (.int .i64 0) := by simp [World.cell?, hx]
  go_wp2_with fail
  refine Calls.mono cs ?_
  rintro e w2 ⟨rfl, rfl⟩
  go_wp2_with fail
  have hx3 := heap_set_self (heap_set_self hx 0 (.int .i64 (2 + (z : Int)))) 1 (.int .i64 (m : Int))
  have hb3 := (HB.out.setCell (p := ⟨X, 0, none⟩) (Nat.le_refl X) (.int .i64 (2 + (z : Int)))).setCell (p := ⟨X, 1, none⟩) (Nat.le_refl X) (.int .i64 (m : Int))
  generalize (w1.setCell ⟨X, 0, none⟩ (.int .i64 (2 + (z : Int)))).setCell ⟨X, 1, none⟩ (.int .i64 (m : Int)) = w3 at *
  have y0 : w3.cell? ⟨X, 0, none⟩ = some (.int .i64 (2 + (z : Int))) := by simp [World.cell?, hx3]
  have y1 : w3.cell? ⟨X, 1, none⟩ = some (.int .i64 (m : Int)) := by simp [World.cell?, hx3]
  refine bodyPost_ret (v := .agg #[.int .i64 (2 + (z : Int)), .int .i64 (m : Int)]) (by simp [results, Tryz.results29, go_sem, y0, y1]) rfl ?_
  refine ⟨?_, hb3⟩
  unfold areaV
  simp
theorem jroom (w : World) (N p q n : Nat) (sv lvd : Value) (S : List ByteArray) (L : List (Nat × ByteArray)) (hp : w.cell? ⟨p, 0, none⟩ = some (.pointer (some ⟨q, 0, none⟩))) (hd : Dsk w N q sv lvd S L) (hn : S.length = n) (h6 : 4 ≤ n) :
    Calls Tryz.prog 46 #[.pointer (some ⟨p, 0, none⟩)] w fun e w' => e = .returned (.int .i64 (64 * manyN n : Nat)) ∧ Below w.heap.size w w' := by
  have hm := hd.most
  rw [hn] at hm
  have ca : Calls Tryz.prog 29 #[.pointer (some ⟨p, 0, none⟩), .int .i64 0] w fun e w' => e = .returned (areaV ((2 + 0 * manyN n : Nat) : Int) ((manyN n : Nat) : Int)) ∧ Below w.heap.size w w' := jarea w N p q 0 n sv lvd S L hp hd hn (by omega) (by omega)
  have hmd : 1 ≤ manyN n := by unfold manyN; omega
  have hm3 : manyN n ≤ 2048 := by unfold manyN; omega
  have cb := fun w => abytes ((2 + 0 * manyN n : Nat) : Int) ((manyN n : Nat) : Int) w
  have e : bytesA ((2 + 0 * manyN n : Nat) : Int) ((manyN n : Nat) : Int) = ((64 * manyN n : Nat) : Int) := by
    unfold bytesA
    rw [if_pos ((mayA_iff _ _).2 (by omega))]
    omega
  rw [e] at cb
  generalize 64 * manyN n = R at cb ⊢
  generalize manyN n = M at ca cb
  generalize 2 + 0 * M = F at ca cb
  clear hp hd hn hmd hm3 e hm
  unfold areaV at ca cb
  go_enter Tryz.func46, Tryz.ntmps46
  go_wp2_with fail
  refine Calls.mono ca ?_
  rintro e w1 ⟨rfl, hb⟩
  have HB := Lib.hid hb
  clear hb
  go_wp2_with fail
  refine Calls.mono (cb _) ?_
  rintro e w2 ⟨rfl, hb⟩
  have HB2 := Lib.hid (HB.out.trans (hb.mono HB.out.size))
  clear hb
  go_wp2_with fail
  go_returns
  exact ⟨rfl, HB2.out⟩
theorem jlater_nil (w : World) : Calls Tryz.prog 20 #[.pointer none] w fun e w' => e = .returned (.bool false) ∧ w = w' := by
  go_enter Tryz.func20, Tryz.ntmps20
  go_wp2_with fail
  go_returns
  exact ⟨rfl, rfl⟩
theorem jlater {w : World} {N p q : Nat} {pv lv sv : Value} {S : List ByteArray} {a b last : ByteArray} {s : DS} {os : List JO} (h : JX w N p q pv lv sv S a b last s os) :
    Calls Tryz.prog 20 #[.pointer (some ⟨p, 0, none⟩)] w fun e w' => e = .returned (.bool (decide (0 < lenJ os))) ∧ w = w' := by
  obtain ⟨-, -, -, c3, -⟩ := jm_cells h.jm
  obtain ⟨a0, cap, rfl⟩ : ∃ a0 cap, lv = .slice a0 (lenJ os) cap := by
    rcases h.lr.2 with ⟨rfl, h'⟩ | ⟨g, cap, cur, rfl, _⟩
    · exact ⟨none, 0, by rw [h']⟩
    · exact ⟨_, _, rfl⟩
  generalize lenJ os = n at *
  clear h
  go_enter Tryz.func20, Tryz.ntmps20
  by_cases h0 : 0 < n
  · have h0i : 0 < (n : Int) := by omega
    have e : decide (0 < n) = true := by simp [h0]
    rw [e]
    go_wp2_with fail
    go_returns
    exact ⟨rfl, rfl⟩
  · have h0i : ¬ 0 < (n : Int) := by omega
    have e : decide (0 < n) = false := by simp [h0]
    rw [e]
    go_wp2_with fail
    go_returns
    exact ⟨rfl, rfl⟩
theorem jused {w : World} {N p q : Nat} {pv lv sv : Value} {S : List ByteArray} {a b last : ByteArray} {s : DS} {os : List JO} (h : JX w N p q pv lv sv S a b last s os) :
    Calls Tryz.prog 21 #[.pointer (some ⟨p, 0, none⟩)] w fun e w' => e = .returned (.tuple #[.int .i64 (lenJ s.rs), .int .u64 s.told]) ∧ Below w.heap.size w w' := by
  have c5 : w.cell? ⟨p, 5, none⟩ = some (.int .i64 (lenJ s.rs)) := by simp [World.cell?, h.jm.2.1, jC]
  have c6 : w.cell? ⟨p, 6, none⟩ = some (.int .u64 s.told) := by simp [World.cell?, h.jm.2.1, jC]
  generalize lenJ s.rs = n at *
  generalize s.told = t at *
  clear h
  go_enter Tryz.func21, Tryz.ntmps21
  go_upto_region 3 with fail
  go_region
  go_wp2_with fail
  go_returns
  exact ⟨rfl, below_drewN' (Below.refl _ _) 1⟩
theorem jget_yes {w : World} {N p q : Nat} {pv lv sv : Value} {S : List ByteArray} {a b last : ByteArray} {s : DS} {os : List JO} (h : JX w N p q pv lv sv S a b last s os) (k v : ByteArray) (hx : (nowJ s os)[ixK (nowJ s os) k]? = some ⟨k, v⟩) :
    Calls Tryz.prog 22 #[.pointer (some ⟨p, 0, none⟩), .string k] w fun e w' => e = .returned (.tuple #[.string v, .bool true]) ∧ Below w.heap.size w w' := by
  have hm := h.many
  have hf := jfind p _ pv _ lv _ _ _ _ k w h.jm.2.1 (SR.owns h.jm.2.2) h.srt (by omega)
  rw [(has_iff h.srt k).2 ⟨v, hx⟩] at hf
  have HJ := Lib.hid h.jm
  generalize nowJ s os = l at *
  have hlt : ixK l k < l.length := (List.getElem?_eq_some_iff.1 hx).1
  have hl3 : l.length ≤ 31936 := hm.2.2.2.2
  have HX := Lib.hid hx
  clear h hm hx
  go_enter Tryz.func22, Tryz.ntmps22
  go_wp2_with fail
  refine Calls.mono hf ?_
  rintro e w1 ⟨rfl, hb⟩
  have h1 := HJ.out.below hb
  obtain ⟨a0, cap, rfl, -, -⟩ := (SR.owns h1.2.2).form
  obtain ⟨-, c1, -⟩ := jm_cells h1
  obtain ⟨hlen, hq1, hq2, b0, off, rfl, r0, r1⟩ := jm_pair h1 (ixK l k) _ HX.out
  have HB := Lib.hid hb
  unfold maxLen at hq2
  generalize ixK l k = i at *
  obtain ⟨m, hm⟩ : ∃ m, l.length = m := ⟨_, rfl⟩
  rw [hm] at *
  clear h1 hb hf hlen
  go_wp2_with fail
  go_returns
  exact ⟨rfl, HB.out⟩
theorem jget_nil (k : ByteArray) (w : World) : Calls Tryz.prog 22 #[.pointer none, .string k] w fun e w' => e = .returned (.tuple #[.string ⟨#[]⟩, .bool false]) ∧ w = w' := by
  go_enter Tryz.func22, Tryz.ntmps22
  go_wp2_with fail
  go_returns
  exact ⟨rfl, rfl⟩
end Go.Proofs.YtgnnijpfkgmomaaGreatDoor
/-
  journal: Put.
-/


namespace Go.Proofs.YtgnnijpfkgmomaaGreatDoor
open Go.RowKit
set_option linter.unusedVariables false
set_option linter.unusedSimpArgs false

theorem runJ_snoc (l : List JP) (os : List JO) (o : JO) : runJ l (os ++ [o]) = o.do (runJ l os) := by rw [run_appJ]; rfl
theorem nowJ_set (s : DS) (os : List JO) (k v : ByteArray) : nowJ s (os ++ [⟨k, v, false⟩]) = setK (nowJ s os) k v := by
  unfold nowJ
  rw [← List.append_assoc, runJ_snoc]
  rfl
theorem nowJ_cut (s : DS) (os : List JO) (k : ByteArray) : nowJ s (os ++ [⟨k, ⟨#[]⟩, true⟩]) = cutK (nowJ s os) k := by
  unfold nowJ
  rw [← List.append_assoc, runJ_snoc]
  rfl
theorem lenJ_app (a b : List JO) : lenJ (a ++ b) = lenJ a + lenJ b := by unfold lenJ; rw [List.flatMap_append, List.length_append]
theorem recS_len (p : JP) : (recS p).size = (JO.b ⟨p.k, p.v, false⟩).length := by show (JO.b ⟨p.k, p.v, false⟩).toArray.size = _; simp
theorem recS_cells (p : JP) : Lib.strCells (recS p) = bCells (JO.b ⟨p.k, p.v, false⟩) := rfl
theorem strCells_b (l : List UInt8) : Lib.strCells ⟨l.toArray⟩ = bCells l := by simp [Lib.strCells, bCells]
theorem lv_ne {w : World} {N p n : Nat} {lv : Value} {xs : List Value} {cs : Array Value} (h : w.ownsRow N 5 1 lv n xs) (hp : w.heap[p]? = some (.cells cs 64)) : lv.ownBlock ≠ some p := row_other h hp (by decide)
/-- records have been laid behind what is not sure: the object is told -/
theorem jx_later {w w2 : World} {N p q : Nat} {pv lv v' sv : Value} {S : List ByteArray} {a b last : ByteArray} {s : DS} {os os' : List JO} {sz : Int} {l : List JP}
    (hpd : PDsk w N q sv S a b s.told last s.top) (hdx : DX S s last) (hjm : JM w N p (.pointer (some ⟨q, 0, none⟩)) pv sz lv s.now (lenJ s.rs) s.told l) (hlr : w.ownsRow N 5 1 lv (lenJ os) (bCells (os.flatMap JO.b)))
    (hok : ∀ o ∈ os', o.ok) (hl : l = nowJ s os') (hz : sz = sizeJ (nowJ s os')) (hfit : sizeJ (nowJ s os') ≤ 64 * manyN s.n)
    (hg : w.grownBy w2 lv.ownBlock) (hr : w2.ownsRow N 5 1 v' (lenJ os') (bCells (os'.flatMap JO.b))) :
    JX (w2.setCell ⟨p, 3, none⟩ v') N p q pv v' sv S a b last s os' ∧ JKept w (w2.setCell ⟨p, 3, none⟩ v') N pv pv := by
  have hne := lv_ne hlr hjm.2.1
  have hp2 : w2.heap[p]? = some (.cells (jC (.pointer (some ⟨q, 0, none⟩)) pv sz lv s.now (lenJ s.rs) s.told) 64) := (hg.block p (lt_heap hjm.2.1) (fun e => hne e.symm)).trans hjm.2.1
  have hne2 := lv_ne hr hp2
  have htk : TK w (w2.setCell ⟨p, 3, none⟩ v') [64, 5] := by
    intro k c t z hk ht
    have hkp : k ≠ p := fun e => by
      subst e
      have := hjm.2.1
      rw [hk] at this
      injection this with this
      injection this with _ h2
      exact ht (by rw [h2]; simp)
    rw [heap_setCell_other _ _ _ _ hkp]
    exact (hg.block k (lt_heap hk) (fun e => row_other hlr hk (fun e => ht (by rw [e]; simp)) e.symm)).trans hk
  have hb : Below N w (w2.setCell ⟨p, 3, none⟩ v') := ((Below.refl N w).grown hg (Nat.le_trans hjm.1 (Nat.le_of_lt (lt_heap hjm.2.1))) (fun k hk => (hlr.lt k hk).1)).setCell (p := ⟨p, 3, none⟩) hjm.1 v'
  refine ⟨⟨hpd.tk htk (by decide) (by decide) (by decide), hdx, ⟨hjm.1, ?_, ?_⟩, ?_, hok, hfit⟩, JKept.of_tk hb htk (by decide)⟩
  · rw [heap_setCell_same _ _ _ _ _ _ hp2, ← hz]
    rfl
  · rw [← hl]
    exact owns_tk hjm.2.2 htk (by decide)
  · exact hr.kept (row := some p) ⟨rfl, rfl, rfl, by simp, fun k hk hr => heap_setCell_other _ _ _ _ (fun e => hr (by rw [e]))⟩ (.inr hne2)
/-- what Put answers -/
def putE (s : DS) (os : List JO) (k v : ByteArray) : Int := if (mayK k && decide (v.size ≤ 8192)) = true then (if sizeJ (setK (nowJ s os) k v) ≤ 64 * manyN s.n then 0 else 5) else 1
theorem jput_nil (k v : ByteArray) (w : World) : Calls Tryz.prog 19 #[.pointer none, .string k, .string v] w fun e w' => e = .returned (.int .i64 1) ∧ w = w' := by
  go_enter Tryz.func19, Tryz.ntmps19
  go_wp2_with fail
  go_returns
  exact ⟨rfl, rfl⟩
theorem jput_bad (p : Nat) (k v : ByteArray) (w : World) (hv : v.size ≤ maxLen) (h : (mayK k && decide (v.size ≤ 8192)) = false) : Calls Tryz.prog 19 #[.pointer (some ⟨p, 0, none⟩), .string k, .string v] w fun e w' => e = .returned (.int .i64 1) ∧ w = w' := by
  have cm := fun w => jmay k w
  unfold maxLen at hv
  by_cases hk : mayK k = true
  · have h8 : ¬ v.size ≤ 8192 := fun e => by rw [hk] at h; simp [e] at h
    have h8i : (8192 : Int) < v.size := by omega
    rw [hk] at cm
    clear h hk
    go_enter Tryz.func19, Tryz.ntmps19
    go_wp2_with fail
    refine Calls.mono (cm _) ?_
    rintro e w1 ⟨rfl, rfl⟩
    go_wp2_with fail
    go_returns
    exact ⟨rfl, rfl⟩
  · have hk' : mayK k = false := by simpa using hk
    rw [hk'] at cm
    clear h hk hk'
    go_enter Tryz.func19, Tryz.ntmps19
    go_wp2_with fail
    refine Calls.mono (cm _) ?_
    rintro e w1 ⟨rfl, rfl⟩
    go_wp2_with fail
    go_returns
    exact ⟨rfl, rfl⟩
end Go.Proofs.YtgnnijpfkgmomaaGreatDoor
/-
  journal: Put of what may be.
-/


namespace Go.Proofs.YtgnnijpfkgmomaaGreatDoor
open Go.RowKit
set_option linter.unusedVariables false
set_option linter.unusedSimpArgs false

theorem set_sizes {l : List JP} (hs : Srt l) (k v : ByteArray) : (hasK l k = false ∧ sizeJ (setK l k v) = sizeJ l + (recS ⟨k, v⟩).size) ∨ ∃ x, hasK l k = true ∧ l[ixK l k]? = some ⟨k, x⟩ ∧ sizeJ (setK l k v) + (recS ⟨k, x⟩).size = sizeJ l + (recS ⟨k, v⟩).size ∧ (recS ⟨k, x⟩).size ≤ sizeJ l := by
  have ec : setK l k v = ahK l k ++ ⟨k, v⟩ :: beK l k := rfl
  rcases srt_split hs k with ⟨e, hne⟩ | ⟨x, e⟩
  · refine .inl ⟨has_no hs hne, ?_⟩
    rw [ec]
    generalize ahK l k = A at *
    generalize beK l k = B at *
    subst e
    rw [sizeJ_app, sizeJ_cons, sizeJ_app]
    omega
  · have hix : ixK l k = (ahK l k).length := rfl
    have hx : l[ixK l k]? = some ⟨k, x⟩ := by
      rw [hix]
      generalize ahK l k = A at *
      generalize beK l k = B at *
      subst e
      simp
    refine .inr ⟨x, (has_iff hs k).2 ⟨x, hx⟩, hx, ?_⟩
    rw [ec]
    generalize ahK l k = A at *
    generalize beK l k = B at *
    subst e
    rw [sizeJ_app, sizeJ_cons, sizeJ_app, sizeJ_cons]
    omega
theorem recS_le (p : JP) (hk : p.k.size ≤ 32) (hv : p.v.size ≤ 8192) : (recS p).size ≤ 9000 := by
  rw [recS_len]
  unfold JO.b
  have g1 := textL_len p.k (by omega)
  have g2 := textL_len p.v (by omega)
  rw [if_neg (by simp)]
  simp only [List.length_cons, List.length_append]
  omega
set_option maxHeartbeats 4000000 in
set_option maxRecDepth 100000 in
theorem jput_some {w : World} {N p q : Nat} {pv lv sv : Value} {S : List ByteArray} {a b last : ByteArray} {s : DS} {os : List JO} (h : JX w N p q pv lv sv S a b last s os) (k v : ByteArray) (hm : mayK k = true) (hv : v.size ≤ 8192) (hl : lenJ os ≤ 1000000000) :
    Calls Tryz.prog 19 #[.pointer (some ⟨p, 0, none⟩), .string k, .string v] w fun e w' => ∃ r : Int, e = .returned (.int .i64 r) ∧
      (sizeJ (setK (nowJ s os) k v) ≤ 64 * manyN s.n → r = 0 ∧ ∃ pv' lv', JX w' N p q pv' lv' sv S a b last s (os ++ [⟨k, v, false⟩]) ∧ JKept w w' N pv pv') ∧
      (¬ sizeJ (setK (nowJ s os) k v) ≤ 64 * manyN s.n → r = 5 ∧ Below w.heap.size w w') := by
  obtain ⟨i0, hi, hz0, hz1, hz2⟩ := info_parts (show (Tryz.prog.info? 5).map (fun i => (i.zero, i.size, i.bytes)) = some (some (.int .u8 0), 1, 1) by kernel_rfl)
  have hmany := h.many
  have hsrt := h.srt
  have hoks := h.oks
  have hk : 1 ≤ k.size ∧ k.size ≤ 32 := by unfold mayK at hm; simpa using hm
  have cm := fun w => jmay k w
  rw [hm] at cm
  have cR := fun w => jrecord ⟨k, v⟩ w (by show k.size ≤ _; omega) (by show v.size ≤ _; omega)
  have hss := set_sizes hsrt k v
  have hTl := recS_le ⟨k, v⟩ hk.2 hv
  have hf := fun (w' : World) (hb : Below w.heap.size w w') => jfind p _ pv _ lv _ _ _ (nowJ s os) k w' (h.below hb).jm.2.1 (SR.owns (h.below hb).jm.2.2) hsrt (by omega)
  have hset := fun (w' : World) (hb : Below w.heap.size w w') => jset w' N p _ pv lv _ _ _ (nowJ s os) (h.below hb).jm hsrt (by omega) (by omega) (fun x hx => ⟨by have := hoks x hx; omega, by have := hoks x hx; omega⟩) k v (by omega) (by omega)
  have hroom := fun (w' : World) (hb : Below w.heap.size w w') => jroom w' N p q s.n sv _ S [] (jm_cells (h.below hb).jm).1 (h.below hb).pd.dsk (h.dx.len) (by have := h.dx.least; omega)
  obtain ⟨T, hT⟩ : ∃ T, recS ⟨k, v⟩ = T := ⟨_, rfl⟩
  obtain ⟨Z, hZ⟩ : ∃ Z, sizeJ (setK (nowJ s os) k v) = Z := ⟨_, rfl⟩
  obtain ⟨sz, hsz⟩ : ∃ sz, sizeJ (nowJ s os) = sz := ⟨_, rfl⟩
  obtain ⟨R, hR⟩ : ∃ R, 64 * manyN s.n = R := ⟨_, rfl⟩
  obtain ⟨hb, hhb⟩ : ∃ hb, hasK (nowJ s os) k = hb := ⟨_, rfl⟩
  obtain ⟨i, hie⟩ : ∃ i, ixK (nowJ s os) k = i := ⟨_, rfl⟩
  have hJcell := fun (w' : World) (hb : Below w.heap.size w w') => jm_cells (h.below hb).jm
  have hsz3 : sz ≤ 31936 := by omega
  have hR3 : R ≤ 31936 := by omega
  simp only [hsz] at hJcell
  rw [hT, hZ, hsz, hhb, hie] at hss
  rw [hT] at cR hTl
  simp only [hhb, hie] at hf
  simp only [hR] at hroom
  rw [hZ, hR]
  have HH := Lib.hid h
  have HF := Lib.hid hf
  have HSET := Lib.hid hset
  have HROOM := Lib.hid hroom
  have HCELL := Lib.hid hJcell
  have HE := Lib.hid (And.intro hZ (And.intro hT (And.intro hR (And.intro hsz (And.intro hie (And.intro hk (And.intro hv hoks)))))))
  have HSS := Lib.hid hss
  have hTi : (T.size : Int) ≤ 9000 := by omega
  clear h hmany hsrt hoks hss hf hset hroom hJcell hhb hZ hT hR hsz hie hm
  go_enter Tryz.func19, Tryz.ntmps19
  have hvi : ¬ (8192 : Int) < v.size := by omega
  clear hk
  go_wp2_with fail
  refine Calls.mono (cm _) ?_
  rintro e w1 ⟨rfl, rfl⟩
  go_wp2_with fail
  refine Calls.mono (cR _) ?_
  rintro e w1 ⟨rfl, hb1⟩
  obtain ⟨-, -, c2, -⟩ := HCELL.out _ hb1
  have c := HF.out _ hb1
  have HB1 := Lib.hid hb1
  clear hb1
  go_wp2_with fail
  refine Calls.mono c ?_
  rintro e w2 ⟨rfl, hb2⟩
  have HB2 := Lib.hid (below_trans HB1.out hb2 HB1.out.size)
  clear hb2 c c2
  go_upto_if 40 with fail
  go_cut [8] (fun sv wx => sv = .int .i64 (Z : Int) ∧ Below w.heap.size w wx)
  case first =>
    rcases HSS.out with ⟨e1, e2⟩ | ⟨x, e1, e2, e3, e4⟩
    · subst e1
      go_wp2_with fail
      go_meet
      refine ⟨?_, HB2.out⟩
      rw [e2]
      go_num
    · subst e1
      have h2 := (HH.out.below HB2.out).jm
      obtain ⟨a0, cap, rfl, -, -⟩ := (SR.owns h2.2.2).form
      obtain ⟨-, d1, -⟩ := jm_cells h2
      obtain ⟨hlen, hq1, hq2, b0, off, rfl, r0, r1⟩ := jm_pair h2 i _ e2
      have hil := (List.getElem?_eq_some_iff.1 e2).1
      have hx := HE.out.2.2.2.2.2.2.2 _ (List.mem_of_getElem? e2)
      have cR2 := fun w => jrecord ⟨k, x⟩ w (by have := hx.2.1; omega) (by have := hx.2.2; omega)
      obtain ⟨U, hU⟩ : ∃ U, recS ⟨k, x⟩ = U := ⟨_, rfl⟩
      rw [hU] at cR2 e3 e4
      obtain ⟨m, hm⟩ : ∃ m, m = (nowJ s os).length := ⟨_, rfl⟩
      rw [← hm] at d1 hil hq1
      have hUi : (U.size : Int) ≤ 31936 := by omega
      have HX := Lib.hid (And.intro hm (And.intro e2 hx))
      unfold maxLen at hq2
      clear h2 hlen e2 hx hU hm
      go_wp2_with fail
      refine Calls.mono (cR2 _) ?_
      rintro e w3 ⟨rfl, hb3⟩
      have HB3 := Lib.hid (below_trans HB2.out hb3 HB2.out.size)
      clear hb3 d1 r0 r1
      go_wp2_with fail
      go_meet
      refine ⟨?_, HB3.out⟩
      first | go_num | (congr 1; omega)
  case rest =>
    obtain ⟨rfl, hbx⟩ := hcut
    have c := HROOM.out _ hbx
    have c2 := HSET.out _ hbx
    have HBX := Lib.hid hbx
    clear hbx HB2 HB1
    by_cases hZR : Z ≤ R
    · have hZRi : ¬ ((R : Nat) : Int) < (Z : Int) := by omega
      go_wp2_with fail
      refine Calls.mono c ?_
      rintro e w3 ⟨rfl, hb3⟩
      have c2 := HSET.out _ (below_trans HBX.out hb3 HBX.out.size)
      have HB3 := Lib.hid (below_trans HBX.out hb3 HBX.out.size)
      clear hb3 c
      go_wp2_with fail
      refine Calls.mono c2 ?_
      rintro e w4 ⟨rfl, pv', hj4, ho4⟩
      have h3 := HH.out.below HB3.out
      have htk := ho4.tk h3.jm.2.1 h3.jm.2.2
      have hlr := owns_tk h3.lr htk (by decide)
      have hpd := h3.pd.tk htk (by decide) (by decide) (by decide)
      have hkept := JKept.of_okept ho4 h3.jm.2.1
      obtain ⟨-, -, -, c3, -, -, f3⟩ := jm_cells hj4
      have H4 := Lib.hid (And.intro hj4 (And.intro hlr (And.intro hpd hkept)))
      have hN4 : N ≤ w4.heap.size := Nat.le_trans hj4.1 (Nat.le_of_lt (lt_heap hj4.2.1))
      obtain ⟨n, hn⟩ : ∃ n, lenJ os = n := ⟨_, rfl⟩
      rw [hn] at hlr hl
      have HN := Lib.hid hn
      clear c2 hj4 ho4 h3 htk hpd hkept hn
      go_wp2_with (at_builtin; refine Lib.wpList_append_own_string _ rfl _ _ 60 9 rfl N 5 i0 Tryz.underlying60 Tryz.underlying9 hi hz0 hz1 hz2 _ _ _ rfl hlr T rfl ?c3 ?c4 ?c5 ?_)
      case c3 => unfold maxLen; omega
      case c4 => omega
      case c5 => exact hN4
      intro v' w5 hown' hgrow _
      have hp5 : w5.heap[p]? = some _ := (hgrow.block p (lt_heap H4.out.1.2.1) (fun e => lv_ne H4.out.2.1 H4.out.1.2.1 e.symm)).trans H4.out.1.2.1
      have d3 : w5.cell? ⟨p, 3, none⟩ = some lv := by simp [World.cell?, hp5, jC]
      have g3 : w5.frozen? ⟨p, 3, none⟩ = false := by simp [World.frozen?, hp5]
      obtain ⟨ao, n', cap, rfl⟩ : ∃ ao n' cap, v' = .slice ao n' cap := by
        rcases hown'.2 with ⟨hv, _⟩ | ⟨g, cap, cur, hv, _⟩
        · exact ⟨none, 0, 0, hv⟩
        · exact ⟨_, _, cap, hv⟩
      have HO := Lib.hid (And.intro hown' (And.intro hgrow hlr))
      clear hown' hgrow hlr hp5 c3 f3
      go_wp2_with fail
      go_returns
      obtain ⟨hZ, hT, hR, hsz, hie, hk, hv, hoks⟩ := HE.out
      obtain ⟨hown', hgrow, hlr⟩ := HO.out
      have e1 : lenJ (os ++ [⟨k, v, false⟩]) = n + T.size := by
        rw [lenJ_app, HN.out, ← hT, recS_len]
        simp [lenJ]
      have e2 : bCells ((os ++ [(⟨k, v, false⟩ : JO)]).flatMap JO.b) = bCells (os.flatMap JO.b) ++ Lib.strCells T := by
        rw [← hT, recS_cells, List.flatMap_append, bCells_append]
        simp
      have hJ := jx_later (os' := os ++ [⟨k, v, false⟩]) H4.out.2.2.1 HH.out.dx H4.out.1 H4.out.2.1 (by
        intro o ho
        rcases List.mem_append.1 ho with ho | ho
        · exact HH.out.ok o ho
        · obtain rfl := List.mem_singleton.1 ho
          exact ⟨hk.1, hk.2, fun _ => hv⟩) (nowJ_set s os k v).symm (by rw [nowJ_set]) (by rw [nowJ_set, hZ, hR]; exact hZR) hgrow (by rw [e1, e2]; exact hown')
      refine ⟨0, rfl, fun _ => ⟨rfl, pv', _, hJ.1, ?_⟩, fun h => absurd hZR h⟩
      exact ((JKept.of_below HB3.out (HH.out.pd.dsk.le)).trans H4.out.2.2.2).trans hJ.2
    · have hZRi : ((R : Nat) : Int) < (Z : Int) := by omega
      clear c2
      go_wp2_with fail
      refine Calls.mono c ?_
      rintro e w3 ⟨rfl, hb3⟩
      have HB3 := Lib.hid (below_trans HBX.out hb3 HBX.out.size)
      clear hb3 c
      go_wp2_with fail
      go_returns
      exact ⟨5, rfl, fun h => absurd h hZR, fun _ => ⟨rfl, HB3.out⟩⟩
end Go.Proofs.YtgnnijpfkgmomaaGreatDoor
/-
  journal: Del.
-/


namespace Go.Proofs.YtgnnijpfkgmomaaGreatDoor
open Go.RowKit
set_option linter.unusedVariables false
set_option linter.unusedSimpArgs false

section
variable {P : Program}
/-- append of a text's bytes onto a row of the call's own, as one step of a region that draws -/
theorem step_str {t u e : TypeId} {i : TypeInfo} (ht : P.underlying t = some (.slice e)) (hu : P.underlying u = some .string) (hi : P.info? e = some i) (hz : i.zero = some (.int .u8 0)) (hsize : i.size = 1) (hby : i.bytes = 1)
    {ops : Array Oper} {o : Oper} {a : Act} {K : Act → World → Prop} {Q : Exit → Act → World → Prop} {E : Prop} {w : World} (hgd : o.guard = none) (sl x : Operand)
    (ho : o.op = .call { callee := .builtin .append, args := #[sl, x], argTypes := #[t, u] }) (base : Nat) (v : Value) (n : Nat) (xs : List Value) (hs : a.eval sl = v) (hown : w.ownsRow base e 1 v n xs)
    (s : ByteArray) (hx : a.eval x = .string s) (h63 : n + s.size ≤ maxLen) (hbytes : n + s.size ≤ 140737488355328) (hbase : base ≤ w.heap.size)
    (h : ∀ v' w', w'.ownsRow base e 1 v' (n + s.size) (xs ++ Lib.strCells s) → w.grownBy w' v.ownBlock → K (a.put o.dst v') w') :
    if Region.wanted o (yielded ops a.tmps) = true then Oper.wp P o a w K Q else E := by
  rw [if_pos (by simp [Region.wanted, hgd])]
  obtain ⟨v', w', hr, h2, h3, h4⟩ := Lib.run_append_own_string (P := P) w base t u o.type e i ht hu hi hz hsize hby v n xs hown s h63 hbytes hbase
  unfold Oper.wp execOp
  simp only [ho, resolve, invoke, builtin, Sem.run_bind, Sem.run_pure, Result.andThen_ok, List.map_toArray, List.map_cons, List.map_nil, hs, hx, hr]
  exact h v' w' h2 h3
/-- a call of a Go function by its contract, as one step of a region that draws -/
theorem step_call {ops : Array Oper} {o : Oper} {a : Act} {K : Act → World → Prop} {Q : Exit → Act → World → Prop} {E : Prop} {w : World} {f : FuncId} {args : Array Value} {v : Value} {R : World → Prop} (hgd : o.guard = none)
    (hrun : (execOp a.eval o).run P w = .ok (.enter f args) w) (c : Calls P f args w fun e w' => e = .returned v ∧ R w') (h : ∀ w', R w' → K (a.put o.dst v) w') :
    if Region.wanted o (yielded ops a.tmps) = true then Oper.wp P o a w K Q else E := by
  rw [if_pos (by simp [Region.wanted, hgd])]
  unfold Oper.wp
  rw [hrun, Oper.upon_enter]
  refine c.mono ?_
  rintro e w' ⟨rfl, hR⟩
  exact h w' hR
end
theorem jdel_nil (k : ByteArray) (w : World) : Calls Tryz.prog 10 #[.pointer none, .string k] w fun e w' => e = .returned (.tuple #[]) ∧ w = w' := by
  go_enter Tryz.func10, Tryz.ntmps10
  go_wp2_with fail
  refine bodyPost_ret (v := .tuple #[]) (by simp [results, Tryz.results10, go_sem]) rfl ?_
  exact ⟨rfl, rfl⟩
theorem jdel_bad (p : Nat) (k : ByteArray) (w : World) (h : mayK k = false) : Calls Tryz.prog 10 #[.pointer (some ⟨p, 0, none⟩), .string k] w fun e w' => e = .returned (.tuple #[]) ∧ w = w' := by
  have cm := fun w => jmay k w
  rw [h] at cm
  go_enter Tryz.func10, Tryz.ntmps10
  go_wp2_with fail
  refine Calls.mono (cm _) ?_
  rintro e w1 ⟨rfl, rfl⟩
  go_wp2_with fail
  refine bodyPost_ret (v := .tuple #[]) (by simp [results, Tryz.results10, go_sem]) rfl ?_
  exact ⟨rfl, rfl⟩
theorem size_cut {l : List JP} (hs : Srt l) (k : ByteArray) : sizeJ (cutK l k) ≤ sizeJ l := by
  have ec : cutK l k = ahK l k ++ beK l k := rfl
  rw [ec]
  rcases srt_split hs k with ⟨e, _⟩ | ⟨x, e⟩
  · rw [← e]
    exact Nat.le_refl _
  · generalize ahK l k = A at *
    generalize beK l k = B at *
    subst e
    rw [sizeJ_app, sizeJ_app, sizeJ_cons]
    omega
theorem gonS_len (k : ByteArray) : (gonS k).size = (JO.b ⟨k, ⟨#[]⟩, true⟩).length := by show (JO.b ⟨k, ⟨#[]⟩, true⟩).toArray.size = _; simp
theorem gonS_le (k : ByteArray) (hk : k.size ≤ 32) : (gonS k).size ≤ 9000 := by
  rw [gonS_len]
  unfold JO.b
  have g1 := textL_len k (by omega)
  rw [if_pos rfl]
  simp only [List.length_cons]
  omega
theorem slice_form {w : World} {N n : Nat} {e : TypeId} {size : Nat} {v : Value} {xs : List Value} (h : w.ownsRow N e size v n xs) : ∃ a n' cap, v = .slice a n' cap := by
  rcases h.2 with ⟨hv, _⟩ | ⟨g, cap, cur, hv, _⟩
  · exact ⟨none, 0, 0, hv⟩
  · exact ⟨_, _, cap, hv⟩
theorem later_cell {w w3 : World} {N p n : Nat} {dv pv lv : Value} {sz now used told : Int} {l : List JP} {xs : List Value} (hj : JM w N p dv pv sz lv now used told l) (hl : w.ownsRow N 5 1 lv n xs) (hg : w.grownBy w3 lv.ownBlock) :
    w3.cell? ⟨p, 3, none⟩ = some lv ∧ w3.frozen? ⟨p, 3, none⟩ = false := by
  have hp := (hg.block p (lt_heap hj.2.1) (fun e => lv_ne hl hj.2.1 e.symm)).trans hj.2.1
  refine ⟨?_, ?_⟩
  · simp [World.cell?, hp, jC]
  · simp [World.frozen?, hp]
theorem PDsk.drew {w : World} {N q at' M : Nat} {sv : Value} {S : List ByteArray} {a b last : ByteArray} (h : PDsk w N q sv S a b at' last M) : PDsk w.drew N q sv S a b at' last M := ⟨h.dsk.drewN 1, h.s0, h.s1, h.pair, h.small⟩
theorem JKept.drewL {w w' : World} {N : Nat} {pv pv' : Value} (h : JKept w.drew w' N pv pv') : JKept w w' N pv pv' := ⟨⟨h.below.os, h.below.tape, h.below.output, h.below.size, h.below.block⟩, h.size, h.rows, h.new⟩
set_option maxHeartbeats 4000000 in
set_option maxRecDepth 100000 in
theorem jdel_some {w : World} {N p q : Nat} {pv lv sv : Value} {S : List ByteArray} {a b last : ByteArray} {s : DS} {os : List JO} (h : JX w N p q pv lv sv S a b last s os) (k : ByteArray) (hm : mayK k = true) (hl : lenJ os ≤ 1000000000) :
    Calls Tryz.prog 10 #[.pointer (some ⟨p, 0, none⟩), .string k] w fun e w' => e = .returned (.tuple #[]) ∧ ∃ pv' lv', JX w' N p q pv' lv' sv S a b last s (os ++ [⟨k, ⟨#[]⟩, true⟩]) ∧ JKept w w' N pv pv' := by
  obtain ⟨i0, hi, hz0, hz1, hz2⟩ := info_parts (show (Tryz.prog.info? 5).map (fun i => (i.zero, i.size, i.bytes)) = some (some (.int .u8 0), 1, 1) by kernel_rfl)
  have hmany := h.many
  have hsrt := h.srt
  have hoks := h.oks
  have hk : 1 ≤ k.size ∧ k.size ≤ 32 := by unfold mayK at hm; simpa using hm
  have cm := fun w => jmay k w
  rw [hm] at cm
  have cG := fun w => jgone k w (by omega)
  have hTl := gonS_le k hk.2
  have hcut := jcut w N p _ pv lv _ _ _ (nowJ s os) h.jm hsrt (by omega) (by omega) (fun x hx => ⟨by have := hoks x hx; omega, by have := hoks x hx; omega⟩) k
  have hsc := size_cut hsrt k
  obtain ⟨T, hT⟩ : ∃ T, gonS k = T := ⟨_, rfl⟩
  rw [hT] at cG hTl
  have HE := Lib.hid (And.intro hT (And.intro hk (And.intro hsc h)))
  clear hmany hsrt hoks hsc hT hk hm
  go_enter Tryz.func10, Tryz.ntmps10
  go_wp2_with fail
  refine Calls.mono (cm _) ?_
  rintro e w1 ⟨rfl, rfl⟩
  go_wp2_with fail
  refine Calls.mono hcut ?_
  rintro e w1 ⟨rfl, pv', hj1, ho1⟩
  have htk := ho1.tk h.jm.2.1 h.jm.2.2
  have hlr := owns_tk h.lr htk (by decide)
  have hpd := h.pd.tk htk (by decide) (by decide) (by decide)
  have hkept := JKept.of_okept ho1 h.jm.2.1
  obtain ⟨-, -, -, c3, -, -, f3⟩ := jm_cells hj1
  have hN1 : N ≤ w1.heap.size := Nat.le_trans hj1.1 (Nat.le_of_lt (lt_heap hj1.2.1))
  have H1 := Lib.hid (And.intro hj1 (And.intro hlr (And.intro hpd (And.intro hkept hN1))))
  obtain ⟨n, hn⟩ : ∃ n, lenJ os = n := ⟨_, rfl⟩
  rw [hn] at hlr hl
  have HLR := Lib.hid hlr
  have HN := Lib.hid hn
  obtain ⟨a0, cap0, hlv⟩ : ∃ a0 cap0, lv = .slice a0 n cap0 := by
    rcases hlr.2 with ⟨hv, h'⟩ | ⟨g, cap, cur, hv, _⟩
    · exact ⟨none, 0, by rw [hv, h']⟩
    · exact ⟨_, _, hv⟩
  have hq1 : n + T.size ≤ 1000009000 := by omega
  clear hcut hj1 ho1 htk hpd hkept hn h hlr hN1 hlv
  go_upto_region 2 with fail
  go_region_law (first | (refine step_str Tryz.underlying60 Tryz.underlying9 hi hz0 hz1 hz2 rfl (.tmp 18) (.tmp 20) rfl N lv n _ rfl hlr2 T rfl (by unfold maxLen; omega) (by omega) hN2 ?_; intro v' w3 hown hgrow; have hq := later_cell hj2 hlr2 hgrow; obtain ⟨hq1, hq2⟩ := hq; have hf := slice_form hown; obtain ⟨ao, n', cap, hv'⟩ := hf; subst hv'; have HO := Lib.hid (And.intro hown hgrow)) | (refine step_call (f := 37) (args := #[.string k]) rfl (by kernel_rfl) (cG _) ?_; intro w2 hb2; have hlr2 := (owns_below (w := w1.drew) HLR.out hb2); have hN2 := Nat.le_trans H1.out.2.2.2.2 hb2.size; have hj2 := H1.out.1.drew.below hb2; obtain ⟨-, -, -, d3, -, -, -⟩ := jm_cells hj2; have HB2 := Lib.hid hb2))
  all_goals
    go_wp2_with fail
    refine bodyPost_end (results_none rfl _ _ _) rfl ?_
    obtain ⟨hT, hk, hsc, h⟩ := HE.out
    obtain ⟨hown, hgrow⟩ := HO.out
    have hsrt := h.srt
    have e1 : lenJ (os ++ [⟨k, ⟨#[]⟩, true⟩]) = n + T.size := by
      rw [lenJ_app, HN.out, ← hT, gonS_len]
      simp [lenJ]
    have e2 : bCells ((os ++ [(⟨k, ⟨#[]⟩, true⟩ : JO)]).flatMap JO.b) = bCells (os.flatMap JO.b) ++ Lib.strCells T := by
      rw [← hT, show Lib.strCells (gonS k) = bCells (JO.b ⟨k, ⟨#[]⟩, true⟩) from rfl, List.flatMap_append, bCells_append]
      simp
    have hfit := h.fit
    have hJ := jx_later (os' := os ++ [⟨k, ⟨#[]⟩, true⟩]) (PDsk.below (w := w1.drew) H1.out.2.2.1.drew HB2.out) h.dx (H1.out.1.drew.below HB2.out) (owns_below (w := w1.drew) H1.out.2.1 HB2.out) (by
      intro o ho
      rcases List.mem_append.1 ho with ho | ho
      · exact h.ok o ho
      · obtain rfl := List.mem_singleton.1 ho
        exact ⟨hk.1, hk.2, fun h => by cases h⟩) (nowJ_cut s os k).symm (by rw [nowJ_cut]) (by rw [nowJ_cut]; omega) hgrow (by rw [e1, e2]; exact hown)
    exact ⟨rfl, pv', _, hJ.1, (H1.out.2.2.2.1.trans (JKept.drewL (JKept.of_below HB2.out H1.out.2.2.2.2))).trans hJ.2⟩
end Go.Proofs.YtgnnijpfkgmomaaGreatDoor
/-
  journal: All: the pairs whose keys begin so.
-/

namespace Go.Proofs.YtgnnijpfkgmomaaGreatDoor
open Go.RowKit
set_option linter.unusedVariables false
set_option linter.unusedSimpArgs false

theorem pre_geL : ∀ b k : List UInt8, b.isPrefixOf k = true → Op.bytesLess k b = false
  | [], k, _ => by cases k <;> rfl
  | _ :: _, [], h => by simp at h
  | c :: b, d :: k, h => by
    simp only [List.isPrefixOf, Bool.and_eq_true, beq_iff_eq] at h
    obtain ⟨rfl, h⟩ := h
    have ih := pre_geL b k h
    simp [Op.bytesLess, ih]
theorem pre_midL : ∀ b x y : List UInt8, Op.bytesLess x b = false → Op.bytesLess x y = true → b.isPrefixOf y = true → b.isPrefixOf x = true
  | [], x, _, _, _, _ => by simp
  | c :: b, [], y, h, _, _ => by simp [Op.bytesLess] at h
  | c :: b, d :: x, [], _, h, _ => by simp [Op.bytesLess] at h
  | c :: b, d :: x, e :: y, h1, h2, h3 => by
    simp only [List.isPrefixOf, Bool.and_eq_true, beq_iff_eq] at h3 ⊢
    obtain ⟨rfl, h3⟩ := h3
    simp only [Op.bytesLess, Bool.or_eq_false_iff, decide_eq_false_iff_not, Bool.and_eq_false_iff] at h1
    simp only [Op.bytesLess, Bool.or_eq_true, decide_eq_true_eq, Bool.and_eq_true, beq_iff_eq] at h2
    rcases h2 with h2 | ⟨rfl, h2⟩
    · exact absurd h2 h1.1
    · refine ⟨rfl, pre_midL b x y ?_ h2 h3⟩
      rcases h1.2 with h | h
      · simp at h
      · exact h
def preJ (b : ByteArray) (p : JP) : Bool := Lib.hasPrefix p.k.data.toList b.data.toList
theorem all_mid {l : List JP} (hs : Srt l) (b : ByteArray) (j : Nat) (hF : ixK l b ≤ j) (h1 : ∀ x, ixK l b ≤ x → x < j → ∀ p, l[x]? = some p → preJ b p = true) (h2 : ∀ p, l[j]? = some p → preJ b p = false) :
    (l.drop (ixK l b)).take (j - ixK l b) = l.filter (preJ b) := by
  obtain ⟨g1, g2⟩ := ix_ahead hs b
  generalize ixK l b = F at *
  have e : l = l.take F ++ ((l.drop F).take (j - F) ++ l.drop j) := by
    have e1 : l.drop j = (l.drop F).drop (j - F) := by rw [List.drop_drop]; congr 1; omega
    rw [e1, List.take_append_drop, List.take_append_drop]
  have f1 : (l.take F).filter (preJ b) = [] := by
    rw [List.filter_eq_nil_iff]
    intro p hp hc
    have := pre_geL _ _ hc
    have h3 := g1 p hp
    unfold ltK at h3
    rw [ByteArray.toList_eq, ByteArray.toList_eq, this] at h3
    cases h3
  have f2 : ((l.drop F).take (j - F)).filter (preJ b) = (l.drop F).take (j - F) := by
    rw [List.filter_eq_self]
    intro p hp
    obtain ⟨i, hi⟩ := List.mem_iff_getElem?.1 hp
    rw [List.getElem?_take] at hi
    split at hi
    · rw [List.getElem?_drop] at hi
      exact h1 (F + i) (by omega) (by omega) p hi
    · cases hi
  have f3 : (l.drop j).filter (preJ b) = [] := by
    cases hd : l.drop j with
    | nil => rfl
    | cons q r =>
      have hq : l[j]? = some q := by
        have : (l.drop j)[0]? = some q := by rw [hd]; rfl
        rw [List.getElem?_drop] at this
        simpa using this
      have hqn := h2 q hq
      have hge : ltK q.k b = false := by
        refine g2 q ?_
        have : l.drop j = (l.drop F).drop (j - F) := by rw [List.drop_drop]; congr 1; omega
        rw [this] at hd
        exact List.mem_of_mem_drop (i := j - F) (by rw [hd]; exact List.mem_cons_self ..)
      have hsr : Srt (q :: r) := by
        rw [← hd]
        exact List.Pairwise.sublist (List.drop_sublist j l) hs
      obtain ⟨hq2, -⟩ := List.pairwise_cons.1 hsr
      rw [List.filter_eq_nil_iff]
      intro p hp hc
      rcases List.mem_cons.1 hp with rfl | hp
      · rw [hqn] at hc; cases hc
      · have hlt := hq2 p hp
        unfold ltK at hlt hge
        rw [ByteArray.toList_eq, ByteArray.toList_eq] at hlt hge
        have := pre_midL _ _ _ hge hlt hc
        have hqt : preJ b q = true := this
        rw [hqn] at hqt
        cases hqt
  conv => rhs; rw [e]
  rw [List.filter_append, List.filter_append, f1, f2, f3, List.nil_append, List.append_nil]
theorem sr_subJ {w : World} {b n cap F j : Nat} {l : List JP} (h : SR w (.slice (some ⟨b, 0, none⟩) n cap) 2 n (pCells l)) (hn : l.length = n) (h1 : F ≤ j) (h2 : j ≤ n) (o : Nat) (ho : o = F * 2 ∨ cap = F) : SR w (.slice (some ⟨b, o, none⟩) (j - F) (cap - F)) 2 (j - F) (pCells ((l.drop F).take (j - F))) := by
  obtain ⟨a', cap', he, g1, g2, g3, g4⟩ := h
  injection he with e1 _ e2
  subst e1 e2
  refine ⟨_, _, rfl, by omega, by omega, ?_, ?_⟩
  · rw [pCells_len, List.length_take, List.length_drop, hn]
    congr 1
    omega
  · by_cases h0 : j - F = 0
    · exact .inl h0
    · have ho2 : o = F * 2 := ho.resolve_right (by omega)
      subst ho2
      rcases g4 with g4 | ⟨b', off, e, hb, hc⟩
      · omega
      · cases e
        refine .inr ⟨b, F * 2, rfl, hb, fun i u hi => ?_⟩
        have e1 : pCells l = pCells (l.take F) ++ (pCells ((l.drop F).take (j - F)) ++ pCells ((l.drop F).drop (j - F))) := by
          rw [← pCells_app, List.take_append_drop, ← pCells_app, List.take_append_drop]
        have hF : (pCells (l.take F)).length = F * 2 := by rw [pCells_len, List.length_take, Nat.min_eq_left (by omega)]
        have := hc (F * 2 + i) u (by
          rw [e1, List.getElem?_append_right (by omega), hF, show F * 2 + i - F * 2 = i by omega, List.getElem?_append_left (List.getElem?_eq_some_iff.1 hi).1]
          exact hi)
        rw [Nat.zero_add] at this
        exact this
set_option maxHeartbeats 4000000 in
set_option maxRecDepth 100000 in
theorem jall {w : World} {N p q : Nat} {pv lv sv : Value} {S : List ByteArray} {a b last : ByteArray} {s : DS} {os : List JO} (h : JX w N p q pv lv sv S a b last s os) (bg : ByteArray) :
    Calls Tryz.prog 15 #[.pointer (some ⟨p, 0, none⟩), .string bg] w fun e w' => ∃ mv, e = .returned mv ∧ w'.ownsRow w.heap.size 43 2 mv ((nowJ s os).filter (preJ bg)).length (pCells ((nowJ s os).filter (preJ bg))) ∧ Below w.heap.size w w' := by
  obtain ⟨i0, hi, hz0, hz1, hz2⟩ := info_parts (show (Tryz.prog.info? 43).map (fun i => (i.zero, i.size, i.bytes)) = some (some (.agg #[.string ByteArray.empty, .string ByteArray.empty]), 2, 32) by kernel_rfl)
  have hmany := h.many
  have hsrt := h.srt
  have hf := jfind p _ pv _ lv _ _ _ (nowJ s os) bg w h.jm.2.1 (SR.owns h.jm.2.2) hsrt (by omega)
  have hFl := ix_le (nowJ s os) bg
  have hnil : w.ownsRow w.heap.size 43 2 (.slice none 0 0) 0 [] := ⟨rfl, .inl ⟨rfl, rfl⟩⟩
  have hmid := all_mid hsrt bg
  have H := Lib.hid h.jm
  obtain ⟨l, hle⟩ : ∃ l, nowJ s os = l := ⟨_, rfl⟩
  rw [hle] at hf hFl hmid H ⊢
  have hl3 : l.length ≤ 31936 := by rw [← hle]; omega
  obtain ⟨F, hF⟩ : ∃ F, ixK l bg = F := ⟨_, rfl⟩
  rw [hF] at hf hFl hmid
  obtain ⟨hb0, hhb⟩ : ∃ hb, hasK l bg = hb := ⟨_, rfl⟩
  rw [hhb] at hf
  have HM := Lib.hid hmid
  have HN := Lib.hid hnil
  obtain ⟨m, hm⟩ : ∃ m, l.length = m := ⟨_, rfl⟩
  rw [hm] at hFl hl3
  have HL := Lib.hid hm
  obtain ⟨sz, hsz⟩ : ∃ sz : Int, ((sizeJ l : Nat) : Int) = sz := ⟨_, rfl⟩
  obtain ⟨now, hnow⟩ : ∃ now : Int, ((s.now : Nat) : Int) = now := ⟨_, rfl⟩
  obtain ⟨us, hus⟩ : ∃ us : Int, ((lenJ s.rs : Nat) : Int) = us := ⟨_, rfl⟩
  obtain ⟨td, htd⟩ : ∃ td : Int, ((s.told : Nat) : Int) = td := ⟨_, rfl⟩
  have hjm := H.out
  rw [hsz, hnow, hus, htd] at hjm
  have H := Lib.hid hjm
  have hown := hjm.2.2
  clear h hmany hsrt hmid hnil hle hF hhb hsz hnow hus htd hjm hm
  rcases hown with ⟨hxl, ⟨rfl, hn0⟩ | ⟨g, cap, cur, rfl, hN, hg, hnc, hcm, hcs, ht⟩⟩
  · have hm0 : m = 0 := by rw [← HL.out]; exact hn0
    subst hm0
    obtain rfl : l = [] := List.eq_nil_of_length_eq_zero hn0
    have hF0 : F = 0 := by omega
    subst hF0
    clear hxl hn0
    go_enter Tryz.func15, Tryz.ntmps15
    go_wp2_with fail
    refine Calls.mono hf ?_
    rintro e w1 ⟨rfl, hb1⟩
    have h1 := H.out.below hb1
    obtain ⟨-, c1, -⟩ := jm_cells h1
    have hsr : SR w1 (.slice none 0 0) 2 0 [] := SR.nil_ w1 2
    have HB := Lib.hid hb1
    have hown1 := owns_below HN.out hb1
    clear h1 hb1 hf
    go_wp2_with fail
    go_loopw [7] (fun tv wr => tv = .int .i64 0 ∧ wr = w1) (fun _ _ => 0)
    case atStart => exact ⟨rfl, rfl⟩
    case round =>
      obtain ⟨rfl, rfl⟩ := hrel
      go_wp2_with (at_builtin; refine wp_app Tryz.underlying30 hi hz0 hz1 hz2 rfl (by decide) rfl _ _ rfl w.heap.size _ 0 [] rfl hown1 _ 0 [] rfl hsr (by simp) (by decide) (by decide) HB.out.size ?_)
      intro v' w3 hown3 hgrow
      have hB3 := HB.out.grown hgrow HB.out.size (fun k hk => by cases hk)
      go_wp2_with fail
      go_returns
      exact ⟨_, rfl, hown3, hB3⟩
  · have hcm2 : cap ≤ 2 ^ 63 - 1 := hcm
    rw [HL.out] at hnc H
    clear hxl hN hg hcs ht hcm
    go_enter Tryz.func15, Tryz.ntmps15
    go_wp2_with fail
    refine Calls.mono hf ?_
    rintro e w1 ⟨rfl, hb1⟩
    have h1 := H.out.below hb1
    obtain ⟨-, c1, -⟩ := jm_cells h1
    have H1 := Lib.hid h1
    have HB := Lib.hid hb1
    have hown1 := Lib.hid (owns_below HN.out hb1)
    clear h1 hb1 hf
    go_wp2_with fail
    go_loopw [7] (fun tv wr => w1 = wr ∧ ∃ j : Nat, F ≤ j ∧ j ≤ m ∧ tv = .int .i64 j ∧ Hid (∀ x, F ≤ x → x < j → ∀ p, l[x]? = some p → preJ bg p = true)) (fun tv _ => m - (intOf tv).toNat)
    case atStart => exact ⟨rfl, F, Nat.le_refl _, hFl, rfl, Lib.hid (fun x h1 h2 => by omega)⟩
    case round =>
      obtain ⟨rfl, j, hj1, hj2, rfl, hpre⟩ := hrel
      obtain ⟨cb, hcb⟩ : ∃ cb : Bool, cb = (match l[j]? with | some x => preJ bg x | none => false) := ⟨_, rfl⟩
      have HCB := Lib.hid hcb
      clear hcb
      go_upto_region 5 with fail
      go_cut [35] from 17 to 37 (fun cv wx => cv = .bool cb ∧ w1 = wx)
      case first =>
        by_cases hjm : j < m
        · have hjl : j < l.length := by rw [HL.out]; exact hjm
          have hx : l[j]? = some l[j] := List.getElem?_eq_getElem hjl
          have hjmi : (j : Int) < (m : Int) := by omega
          obtain ⟨-, -, -, b0, off, he, r0, -⟩ := jm_pair H1.out j _ hx
          cases he
          rw [Nat.zero_add] at r0
          have hh := Tryz.strings_HasPrefix l[j].k bg w1
          have e1 : cb = preJ bg l[j] := by rw [HCB.out, hx]
          rw [show Lib.hasPrefix l[j].k.data.toList bg.data.toList = cb from e1.symm] at hh
          clear e1 hx
          generalize l[j].k = kk at *
          go_wp2_with fail
          refine Calls.mono hh ?_
          rintro e w2 ⟨rfl, rfl⟩
          go_wp2_with fail
          go_meet
          exact ⟨rfl, rfl⟩
        · have hx : l[j]? = none := List.getElem?_eq_none (by rw [HL.out]; omega)
          have e1 : cb = false := by rw [HCB.out, hx]
          have hjmi : ¬ (j : Int) < (m : Int) := by omega
          subst e1
          go_wp2_with fail
          go_meet
          exact ⟨rfl, rfl⟩
      case rest =>
        obtain ⟨rfl, rfl⟩ := hcut
        cases cb with
        | true =>
          have hjm : j < m := by
            rcases Nat.lt_or_ge j m with h | h
            · exact h
            · have := HCB.out
              rw [List.getElem?_eq_none (by rw [HL.out]; omega)] at this
              cases this
          go_wp2_with fail
          go_roundw
          case rel =>
            refine ⟨trivial, j + 1, by omega, by omega, by go_num, Lib.hid (fun x h1 h2 pp hp => ?_)⟩
            rcases Nat.lt_or_ge x j with h | h
            · exact hpre.out x h1 h pp hp
            · obtain rfl : x = j := by omega
              have := HCB.out
              rw [hp] at this
              exact this.symm
          case measure => simp [intOf]; omega
        | false =>
          have hL := HM.out j hj1 hpre.out (fun pp hp => by
            have := HCB.out
            rw [hp] at this
            exact this.symm)
          obtain ⟨d, hd⟩ : ∃ d, j - F = d := ⟨_, rfl⟩
          obtain ⟨c2, hc2⟩ : ∃ c2, cap - F = c2 := ⟨_, rfl⟩
          have hsr0 := fun o (ho : o = F * 2 ∨ cap = F) => sr_subJ (w := w1) (cap := cap) (n := m) (by have := SR.owns H1.out.2.2; rw [HL.out] at this; exact this) HL.out hj1 hj2 o ho
          rw [hL] at hsr0
          have hlen : (l.filter (preJ bg)).length = d := by
            rw [← hL, List.length_take, List.length_drop, HL.out]
            omega
          rw [hd, hc2] at hsr0
          have HLEN := Lib.hid hlen
          have hown1' := hown1.out
          have hji : (F : Int) ≤ (j : Int) := by omega
          have hjc : (j : Int) ≤ (cap : Int) := by omega
          have hFc : F ≤ cap := by omega
          have hjF : (j : Int) - (F : Int) = (d : Int) := by omega
          have hcF : (cap : Int) - (F : Int) = (c2 : Int) := by omega
          clear hL hlen
          have hfin : ∀ v' w3, w3.ownsRow w.heap.size 43 2 v' d (pCells (l.filter (preJ bg))) → w1.grownBy w3 (Value.slice none 0 0).ownBlock → w3.ownsRow w.heap.size 43 2 v' (l.filter (preJ bg)).length (pCells (l.filter (preJ bg))) ∧ Below w.heap.size w w3 := fun v' w3 h1 h2 =>
            ⟨by rw [HLEN.out]; exact h1, HB.out.grown h2 HB.out.size (fun k hk => by cases hk)⟩
          have HFIN := Lib.hid hfin
          have hone := pCells_one (l.filter (preJ bg))
          obtain ⟨X, hX⟩ : ∃ X, pCells (l.filter (preJ bg)) = X := ⟨_, rfl⟩
          rw [hX] at hsr0 hone hfin
          have hdb : d ≤ 40000 := by omega
          by_cases hcF0 : cap = F
          · have hd0 : d = 0 := by omega
            have hc0 : c2 = 0 := by omega
            have hnil0 : l.filter (preJ bg) = [] := List.eq_nil_of_length_eq_zero (by rw [HLEN.out]; exact hd0)
            have HNIL := Lib.hid hnil0
            clear hnil0
            go_wp2_with fail
            all_goals
              go_returns
              exact ⟨_, rfl, by rw [HNIL.out]; exact hown1', HB.out⟩
          · have hsr := hsr0 (F * 2) (.inl rfl)
            go_wp2_with (at_builtin; refine wp_app Tryz.underlying30 hi hz0 hz1 hz2 rfl (by decide) rfl _ _ rfl w.heap.size _ 0 [] rfl hown1' _ d X rfl hsr hone (by unfold maxLen; omega) (by omega) HB.out.size ?_)
            intro v' w3 hown3 hgrow
            have hr := hfin v' w3 hown3 hgrow
            go_wp2_with fail
            go_returns
            exact ⟨_, rfl, by rw [hX]; exact hr.1, hr.2⟩
end Go.Proofs.YtgnnijpfkgmomaaGreatDoor
