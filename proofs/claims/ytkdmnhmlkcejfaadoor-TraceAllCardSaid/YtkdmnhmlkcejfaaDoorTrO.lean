/-
  trace.All: acts as bytes, one behind the other.
-/
import Derived.Test.YtkdmnhmlkcejfaaDoorTrN
import Derived.Test.YtkdmnhmlkcejfaaDoorBuild
namespace Go.Proofs.YtkdmnhmlkcejfaaDoor
open Go.RowKit
set_option linter.unusedVariables false
set_option linter.unusedSimpArgs false

theorem bt_atT {B b : Nat} {p : Value} {bs : List Value} {w w' : World} (h : Lib.BuilderAt 82 5 B b p bs w) (hb : Below w.heap.size w w') : Lib.BuilderAt 82 5 B b p bs w' := by
  have hlt := h.lt
  obtain ⟨hB, v, ho, hown, hne⟩ := h
  exact ⟨hB, v, (hb.block b hlt).trans ho, owns_below hown hb, hne⟩
theorem bt_belowT {B b : Nat} {l : List UInt8} {w w' : World} (h : BT B b l w) (hb : Below w.heap.size w w') : BT B b l w' := h.imp (fun h => bt_atT h hb) (fun h => bt_atT h hb)
/-- what the acts come to -/
def catT (l : List AN) : List UInt8 := l.flatMap fun a => putT a.t
theorem catT_snoc (l : List AN) (j : Nat) (a : AN) (hj : l[j]? = some a) : catT (l.take j) ++ putT a.t = catT (l.take (j + 1)) := by
  obtain ⟨hlt, e⟩ := List.getElem?_eq_some_iff.1 hj
  rw [List.take_succ_eq_append_getElem hlt, e]
  simp [catT]
theorem catT_len {l : List AN} (h : ∀ a ∈ l, (putT a.t).length ≤ 1113) : (catT l).length ≤ 1113 * l.length := by
  induction l with
  | nil => simp [catT]
  | cons x r ih =>
    have h1 := h x (by simp)
    have h2 := ih fun y hy => h y (by simp [hy])
    simp only [catT, List.flatMap_cons, List.length_append, List.length_cons] at *
    omega
set_option maxHeartbeats 6400000 in
set_option maxRecDepth 100000 in
theorem tall (ls : List AN) (v : Value) (N : Nat) (w : World) (h : ARw w N v ls) (hs : ∀ a ∈ ls, (putT a.t).length ≤ 1113) (h3 : ∀ a ∈ ls, a.t.M.length ≤ 1000 ∧ a.t.C.length ≤ 1000 ∧ a.t.D.length + a.t.S.length ≤ 9223372036854775807) (hn : ls.length ≤ 1000) (hT : Tab w) :
    Calls Tryd.prog 19 #[v] w fun e w' => e = .returned (.string ⟨(catT ls).toArray⟩) ∧ Below w.heap.size w w' := by
  have hf := bfresh w
  have hb := (Below.refl w.heap.size w).alloc (Nat.le_refl _) (.cells #[.pointer none, .slice none 0 0] 82)
  have H := Lib.hid h
  have HS := Lib.hid (And.intro hs h3)
  have HT := Lib.hid hT
  obtain ⟨av, cv, hv, hlc⟩ := h.form
  subst hv
  obtain ⟨n, hnn⟩ : ∃ n, ls.length = n := ⟨_, rfl⟩
  rw [hnn] at hn hlc H ⊢
  have HN := Lib.hid hnn
  clear h hs h3 hT hnn
  go_enter Tryd.func19, Tryd.ntmps19
  go_upto_region 2 with fail
  generalize w.alloc (.cells #[.pointer none, .slice none 0 0] 82) = w0 at *
  obtain ⟨b, hbb⟩ : ∃ b, w.heap.size = b := ⟨_, rfl⟩
  rw [hbb] at hf hb
  try rw [hbb]
  have HB := Lib.hid hbb
  have H0 := Lib.hid (And.intro hf hb)
  clear hbb hf hb
  go_wp2_with fail
  go_loopw [8] (fun i wr => ∃ j : Nat, j ≤ n ∧ i = .int .i64 j ∧ Hid (BT b b (catT (ls.take j)) wr ∧ Below b w wr ∧ b ≤ wr.heap.size)) (fun i _ => n - (intOf i).toNat)
  case atStart => exact ⟨0, Nat.zero_le _, rfl, Lib.hid ⟨H0.out.1, H0.out.2, by have := H0.out.2.size; have := HB.out; omega⟩⟩
  case round =>
    obtain ⟨j, hj, rfl, HR⟩ := hrel
    by_cases hjn : j < n
    · obtain ⟨a, ha⟩ : ∃ a, ls[j]? = some a := ⟨_, List.getElem?_eq_getElem (by have := HN.out; omega)⟩
      have hbw : Below w.heap.size w wr := by have := HR.out.2.1; rw [HB.out]; exact this
      have hA := (H.out.below hbw)
      obtain ⟨bb, off, cap, hvv, hblt, q0, q1, q2, q3, q4, q5, q6, q7, q8, q9, q10, q11⟩ := hA.twelve ha
      rw [HN.out] at hvv
      injection hvv with hv1 hv2 hv3
      subst hv1
      have hown := AN.own.at_ (hA.lists a (List.mem_of_getElem? ha)) ⟨(HS.out.2 a (List.mem_of_getElem? ha)).1, (HS.out.2 a (List.mem_of_getElem? ha)).2.1⟩
      have hx := heap_alloc_self wr (.cells (actC a.t a.vm a.vc) 54)
      have hbx := (Below.refl wr.heap.size wr).alloc (Nat.le_refl _) (.cells (actC a.t a.vm a.vc) 54)
      have cp := tput a.t a.vm a.vc (wr.alloc (.cells (actC a.t a.vm a.vc) 54)) (hown.below hbx) (HS.out.2 a (List.mem_of_getElem? ha)).2.2 ((HT.out.below hbw).below hbx)
      have hsn := catT_snoc ls j a ha
      have hpl := HS.out.1 a (List.mem_of_getElem? ha)
      have hcl : (catT (ls.take j)).length ≤ 1113 * 1000 := by
        have h1 := catT_len (l := ls.take j) fun y hy => HS.out.1 y (List.mem_of_mem_take hy)
        have h2 : (ls.take j).length ≤ 1000 := by rw [List.length_take]; have := HN.out; omega
        omega
      obtain ⟨F, hF⟩ : ∃ F, putT a.t = F := ⟨_, rfl⟩
      rw [hF] at cp hsn hpl
      have hbt := bt_belowT HR.out.1 hbx
      have HX := Lib.hid (And.intro hbt (And.intro hsn (And.intro hpl (And.intro hcl hbx))))
      unfold actC AN.vm AN.vc at cp hx hbx HX
      unfold AN.vm at q9
      unfold AN.vc at q10
      clear hF hbt hsn hown hA hv2 hv3 hbw hpl hcl hblt
      go_upto_region 5 with fail
      obtain ⟨w1, hw1⟩ : ∃ w1, wr.alloc (.cells #[.int .i64 a.t.W, .int .i64 a.t.P, .int .i64 a.t.A, .int .i64 a.t.B, .int .i64 a.t.aW, .int .i64 a.t.aA, .int .i64 a.t.aL, .string ⟨a.t.D.toArray⟩, .bool a.t.u, .slice a.a1 a.t.M.length a.p1, .slice a.a2 a.t.C.length a.p2, .string ⟨a.t.S.toArray⟩] 54) = w1 := ⟨_, rfl⟩
      rw [hw1] at hx hbx HX cp ⊢
      obtain ⟨d0, d1, d2, d3, d4, d5, d6, d7, d8, d9, d10, d11⟩ := actIn (t := a.t) (vm := .slice a.a1 a.t.M.length a.p1) (vc := .slice a.a2 a.t.C.length a.p2) hx
      clear hw1 q0 q1 q2 q3 q4 q5 q6 q7 q8 q9 q10 q11 hx hbx
      go_wp2_with fail
      refine Calls.mono cp ?_
      rintro e w2 ⟨rfl, hb2⟩
      have cw := bwrite b b (catT (ls.take j)) ⟨F.toArray⟩ w2 (bt_belowT HX.out.1 hb2) (by show _ + F.length ≤ _; have := HX.out.2.2.1; have := HX.out.2.2.2.1; omega) (by have := hb2.size; have := HX.out.2.2.2.2.size; have := HR.out.2.2; omega)
      have HB2 := Lib.hid (show Below b w w2 ∧ b ≤ w2.heap.size from ⟨HR.out.2.1.trans ((HX.out.2.2.2.2.trans (hb2.mono HX.out.2.2.2.2.size)).mono HR.out.2.2), by have := hb2.size; have := HX.out.2.2.2.2.size; have := HR.out.2.2; omega⟩)
      clear cp hb2 d0 d1 d2 d3 d4 d5 d6 d7 d8 d9 d10 d11
      go_wp2_with fail
      refine Calls.mono cw ?_
      rintro e w3 ⟨rfl, hbt3, hb3⟩
      have hbt4 : BT b b (catT (ls.take (j + 1))) w3 := by rw [← HX.out.2.1]; exact hbt3
      have H3 := Lib.hid (show BT b b (catT (ls.take (j + 1))) w3 ∧ Below b w w3 ∧ b ≤ w3.heap.size from ⟨hbt4, HB2.out.1.trans hb3, Nat.le_trans HB2.out.2 hb3.size⟩)
      clear cw hbt3 hb3 hbt4
      go_wp2_with fail
      go_roundw
      case rel => exact ⟨j + 1, by omega, by go_num, H3⟩
      case measure => simp [intOf]; omega
    · obtain rfl : n = j := by omega
      have hall : ls.take n = ls := List.take_of_length_le (by have := HN.out; omega)
      have cs := bstring b b (catT (ls.take n)) wr HR.out.1 HR.out.2.2
      rw [hall] at cs
      have HA := Lib.hid hall
      clear hall
      go_wp2_with fail
      refine Calls.mono cs ?_
      rintro e w2 ⟨rfl, hb2⟩
      have HF := Lib.hid (show Below w.heap.size w w2 from by rw [HB.out]; exact HR.out.2.1.trans hb2)
      clear hb2 cs
      go_wp2_with fail
      go_ret
      exact ⟨rfl, HF.out⟩
end Go.Proofs.YtkdmnhmlkcejfaaDoor
