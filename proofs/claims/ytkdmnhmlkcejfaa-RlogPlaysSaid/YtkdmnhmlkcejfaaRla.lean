/-
  A log of two entries: tarnlaw16.awake.
-/
import Derived.Test.YtkdmnhmlkcejfaaRlz
namespace Go.Proofs.Ytkdmnhmlkcejfaa
open Go.RowKit
set_option linter.unusedVariables false
set_option linter.unusedSimpArgs false

def enZ (t : Int) : EN := ⟨t, 0, CF.z, none, 0, none, 0⟩
theorem enZ_far (t : Int) (g : Nat) : (enZ t).far g := ⟨fun _ k e => by simp [enZ, Value.ownBlock] at e, fun _ k e => by simp [enZ, Value.ownBlock] at e⟩
theorem enZ_at (t : Int) (w : World) : (enZ t).at_ w := ⟨SR.nil_ _ _, SR.nil_ _ _⟩
theorem app_awake (w1 wz : World) (g : Nat) (v0 : Value) (h : LogE w1 g g v0 []) (e : wz = w1.alloc (.cells #[.int .i64 1, .int .i64 0, .int .i64 0, .int .i64 0, .int .i64 0, .slice none 0 0, .slice none 0 0, .int .i64 2, .int .i64 0, .int .i64 0, .int .i64 0, .int .i64 0, .slice none 0 0, .slice none 0 0] 46)) :
    Calls Try.prog 10 #[.pointer (some ⟨g, 0, none⟩), .int .i64 0, .int .i64 0, .slice (some ⟨w1.heap.size, 0, none⟩) 2 2] wz fun ev w' => ev = .returned (.tuple #[.int .i64 2, .bool true]) ∧ ∃ v' fs, LogE w' g g v' fs ∧ fs.map EN.k = [(1, 0, CF.z), (2, 0, CF.z)] ∧ Only g w1 w' := by
  subst e
  have hM := heap_alloc_self w1 (.cells #[.int .i64 1, .int .i64 0, .int .i64 0, .int .i64 0, .int .i64 0, .slice none 0 0, .slice none 0 0, .int .i64 2, .int .i64 0, .int .i64 0, .int .i64 0, .int .i64 0, .slice none 0 0, .slice none 0 0] 46)
  have hba : Below w1.heap.size w1 (w1.alloc (.cells #[.int .i64 1, .int .i64 0, .int .i64 0, .int .i64 0, .int .i64 0, .slice none 0 0, .slice none 0 0, .int .i64 2, .int .i64 0, .int .i64 0, .int .i64 0, .int .i64 0, .slice none 0 0, .slice none 0 0] 46)) := (Below.refl _ _).alloc (Nat.le_refl _) _
  have hgl := lt_heap h.obj
  generalize w1.alloc (.cells #[.int .i64 1, .int .i64 0, .int .i64 0, .int .i64 0, .int .i64 0, .slice none 0 0, .slice none 0 0, .int .i64 2, .int .i64 0, .int .i64 0, .int .i64 0, .int .i64 0, .slice none 0 0, .slice none 0 0] 46) = w2 at *
  refine (rappE [enZ 1, enZ 2] (by simp) _ (.slice (some ⟨w1.heap.size, 0, none⟩) 2 2) g g ⟨_, 2, rfl, by simp, by decide, .inr ⟨w1.heap.size, 0, rfl, lt_heap hM, ?_⟩⟩ (fun b e => by simp [Value.ownBlock] at e; omega) ?_ v0 (h.below hba)).mono ?_
  · intro j x hj k u hk
    match j, hj with
    | 0, hj =>
      simp only [List.getElem?_cons_zero, Option.some.injEq] at hj
      subst hj
      match k, hk with
      | 0, hk | 1, hk | 2, hk | 3, hk | 4, hk | 5, hk | 6, hk =>
        simp [EN.cells, enZ, CF.z] at hk
        subst hk
        simp [World.cell?, hM]
      | n + 7, hk => simp [EN.cells] at hk
    | 1, hj =>
      simp only [List.getElem?_cons_succ, List.getElem?_cons_zero, Option.some.injEq] at hj
      subst hj
      match k, hk with
      | 0, hk | 1, hk | 2, hk | 3, hk | 4, hk | 5, hk | 6, hk =>
        simp [EN.cells, enZ, CF.z] at hk
        subst hk
        simp [World.cell?, hM]
      | n + 7, hk => simp [EN.cells] at hk
    | n + 2, hj => simp at hj
  · intro r hr
    simp only [List.mem_cons, List.not_mem_nil, or_false] at hr
    rcases hr with rfl | rfl
    · exact ⟨by decide, by simp [enZ, CF.z, short], enZ_at _ _, enZ_far _ _⟩
    · exact ⟨by decide, by simp [enZ, CF.z, short], enZ_at _ _, enZ_far _ _⟩
  · rintro ev w' ⟨rfl, v', fs, h1, h2, h3⟩
    exact ⟨rfl, v', fs, h1, h2, (onlyB hba).trans h3⟩
theorem map_t (fs : List EN) : fs.map EN.t = (fs.map EN.k).map Prod.fst := by rw [List.map_map]; rfl
set_option maxHeartbeats 1600000 in
set_option maxRecDepth 100000 in
theorem awake16 (w : World) : Calls Try.prog 20 #[] w fun ev w' => ev = .returned (.bool true) ∧ Below w.heap.size w w' := by
  have c0 := rnewE [] (by simp) w (.slice none 0 0) ⟨none, 0, rfl, by simp, by decide, .inl rfl⟩ (by simp)
  go_enter Try.func20, Try.ntmps20
  go_wp2_with fail
  refine Calls.mono c0 ?_
  rintro ev w1 ⟨v0, fs, rfl, hL, hk, hb⟩
  obtain rfl : fs = [] := by simpa using hk
  have cA := fun wz e => app_awake w1 wz w.heap.size v0 hL e
  have HB := Lib.hid hb
  clear c0 hL hk hb
  go_wp2_with fail
  refine Calls.mono (cA _ rfl) ?_
  rintro ev w2 ⟨rfl, v', fs, hL, hk, ho⟩
  have hn : fs.length = 2 := by have := congrArg List.length hk; simpa using this
  have ht : fs.map EN.t = [1, 2] := by rw [map_t, hk]; rfl
  have cl := rlastE w2 w.heap.size w.heap.size v' fs hL (by omega)
  have ct := fun q => rtermE 1 (w2.drewN q) w.heap.size w.heap.size v' fs (hL.drewN q) (by omega) (by omega) (by omega)
  rw [hn] at cl
  rw [show termE fs ((2 : Nat) : Int) = 2 by simp [termE, ht]] at cl
  rw [show termE fs 1 = 1 by simp [termE, ht]] at ct
  have HB2 := Lib.hid (HB.out.trans (ho.below (B := w.heap.size) (Nat.le_refl _) HB.out.size))
  clear hL hk ho hn ht cA HB
  go_wp2_with fail
  refine Calls.mono cl ?_
  rintro ev w3 ⟨rfl, q, rfl⟩
  go_wp2_with fail
  refine Calls.mono (ct _) ?_
  rintro ev w3 ⟨rfl, q2, rfl⟩
  have HB3 := Lib.hid (below_drewN' HB2.out (q + q2))
  go_wp2_with fail
  go_ret
  exact ⟨ret_bool rfl, HB3.out⟩
end Go.Proofs.Ytkdmnhmlkcejfaa
