/-
  Entries laid one behind the other on a new log: rlog.Append.
-/
import Derived.Test.YtkdmnhmlkcejfaaRly
namespace Go.Proofs.Ytkdmnhmlkcejfaa
open Go.RowKit
set_option linter.unusedVariables false
set_option linter.unusedSimpArgs false

def AppR (es : List EN) (w : World) (N g : Nat) (j : Nat) (wr : World) : Prop := ∃ v' fs, LogE wr N g v' fs ∧ fs.map EN.k = (es.take j).map EN.k ∧ Only g w wr
theorem atO {e : EN} {w w' : World} {g : Nat} (h : e.at_ w) (hf : e.far g) (ho : Only g w w') : e.at_ w' := ⟨srFar h.1 ho hf.1, srFar h.2 ho hf.2⟩
set_option maxHeartbeats 3200000 in
set_option maxRecDepth 100000 in
theorem rappE (es : List EN) (hl : es.length ≤ 300) (w : World) (v : Value) (N g : Nat) (hv : Elts w EN.cells 7 v es) (hvf : ∀ b, v.ownBlock = some b → b ≠ g) (hes : ∀ e ∈ es, mayE e.t e.x e.c = true ∧ short e.c ∧ e.at_ w ∧ e.far g) (v0 : Value) (h : LogE w N g v0 []) :
    Calls Try.prog 10 #[.pointer (some ⟨g, 0, none⟩), .int .i64 0, .int .i64 0, v] w fun ev w' => ev = .returned (.tuple #[.int .i64 es.length, .bool true]) ∧ ∃ v' fs, LogE w' N g v' fs ∧ fs.map EN.k = es.map EN.k ∧ Only g w w' := by
  obtain ⟨a, cap, rfl, hlc, hcm, hel⟩ := hv
  have hel' : Elts w EN.cells 7 (.slice a es.length cap) es := ⟨a, cap, rfl, hlc, hcm, hel⟩
  have hgl := lt_heap h.obj
  have HV := Lib.hid (And.intro hel' (And.intro hvf hes))
  obtain ⟨n, hn⟩ : ∃ n, es.length = n := ⟨_, rfl⟩
  rw [hn] at hl hlc
  rw [hn]
  rw [hn] at HV
  have HN := Lib.hid hn
  have c1 := rlenE w N g v0 [] h (by simp)
  have c2 := fun q => rtermE 0 (w.drewN q) N g v0 [] (h.drewN q) (by simp) (by omega) (by omega)
  simp only [List.length_nil] at c1
  rw [show termE [] 0 = 0 from rfl] at c2
  obtain ⟨g0, g1, g2, gf⟩ := h.cells
  have H0 := Lib.hid h
  unfold maxLen at hcm
  clear hes hn hel hel' hvf h
  go_enter Try.func10, Try.ntmps10
  go_wp2_with fail
  refine Calls.mono c1 ?_
  rintro ev w1 ⟨rfl, q, rfl⟩
  have k0 : (w.drewN q).cell? ⟨g, 0, none⟩ = some (.int .i64 0) := g0
  go_wp2_with fail
  refine Calls.mono (c2 q) ?_
  rintro ev w1 ⟨rfl, q2, rfl⟩
  rw [drewN_moreR]
  have k0' : (w.drewN (q + q2)).cell? ⟨g, 0, none⟩ = some (.int .i64 0) := g0
  have HS := Lib.hid (show AppR es w N g 0 (w.drewN (q + q2)) from ⟨v0, [], H0.out.drewN _, rfl, onlyN (Only.refl _ _) _⟩)
  clear c1 c2 g0 g1 g2 gf k0 H0
  go_upto_block 0 with fail
  generalize w.drewN (q + q2) = W at *
  clear k0'
  go_wp2_with fail
  go_loopw [1, 69] (fun ai i wr => ∃ (j : Nat), j ≤ n ∧ ai = .int .i64 j ∧ i = .int .i64 j ∧ Hid (AppR es w N g j wr)) (fun _ i _ => n - (intOf i).toNat)
  case atStart => exact ⟨0, Nat.zero_le _, rfl, rfl, HS⟩
  case round =>
    obtain ⟨j, hj, rfl, rfl, HL⟩ := hrel
    clear HS
    by_cases hlt : j < n
    · obtain ⟨v', fs, hL, hk, hO⟩ := HL.out
      obtain ⟨e, hej⟩ : ∃ e, es[j]? = some e := ⟨_, List.getElem?_eq_getElem (by have := HN.out; omega)⟩
      obtain ⟨hm, hsh, hat, hfar⟩ := HV.out.2.2 e (List.mem_of_getElem? hej)
      obtain ⟨-, b, off, rfl, hbl, hc⟩ := HV.out.1.at_ hej
      have hbg : b ≠ g := HV.out.2.1 b rfl
      have k0 : wr.cell? ⟨b, off + j * 7, none⟩ = some (.int .i64 e.t) := (World.cell?_of_block (a := ⟨b, off + j * 7, none⟩) (hO.block b hbl hbg)).trans (hc 0 _ rfl)
      have k1 : wr.cell? ⟨b, off + j * 7 + 1, none⟩ = some (.int .i64 e.x) := (World.cell?_of_block (a := ⟨b, off + j * 7 + 1, none⟩) (hO.block b hbl hbg)).trans (hc 1 _ rfl)
      have k2 : wr.cell? ⟨b, off + j * 7 + 2, none⟩ = some (.int .i64 e.c.e) := (World.cell?_of_block (a := ⟨b, off + j * 7 + 2, none⟩) (hO.block b hbl hbg)).trans (hc 2 _ rfl)
      have k3 : wr.cell? ⟨b, off + j * 7 + 3, none⟩ = some (.int .i64 e.c.b) := (World.cell?_of_block (a := ⟨b, off + j * 7 + 3, none⟩) (hO.block b hbl hbg)).trans (hc 3 _ rfl)
      have k4 : wr.cell? ⟨b, off + j * 7 + 4, none⟩ = some (.int .i64 e.c.k) := (World.cell?_of_block (a := ⟨b, off + j * 7 + 4, none⟩) (hO.block b hbl hbg)).trans (hc 4 _ rfl)
      have k5 : wr.cell? ⟨b, off + j * 7 + 5, none⟩ = some (.slice e.a1 e.c.M.length e.q1) := (World.cell?_of_block (a := ⟨b, off + j * 7 + 5, none⟩) (hO.block b hbl hbg)).trans (hc 5 _ rfl)
      have k6 : wr.cell? ⟨b, off + j * 7 + 6, none⟩ = some (.slice e.a2 e.c.C.length e.q2) := (World.cell?_of_block (a := ⟨b, off + j * 7 + 6, none⟩) (hO.block b hbl hbg)).trans (hc 6 _ rfl)
      have hb1 := (Below.refl wr.heap.size wr).alloc (Nat.le_refl _) (.cells #[.int .i64 e.t, .int .i64 e.x, .int .i64 e.c.e, .int .i64 e.c.b, .int .i64 e.c.k, .slice e.a1 e.c.M.length e.q1, .slice e.a2 e.c.C.length e.q2] 46)
      have hy := heap_alloc_self wr (.cells #[.int .i64 e.t, .int .i64 e.x, .int .i64 e.c.e, .int .i64 e.c.b, .int .i64 e.c.k, .slice e.a1 e.c.M.length e.q1, .slice e.a2 e.c.C.length e.q2] 46)
      have hL1 := hL.below hb1
      have hO1 := hO.trans (onlyB hb1 (y := g))
      have hat1 := EN.at_.below (atO hat hfar hO) hb1
      have hfl : fs.length = j := by have := congrArg List.length hk; rw [List.length_map, List.length_map, List.length_take] at this; have := HN.out; omega
      have ca := rlayE e _ hat1 hsh hm N g hfar v' fs hL1 (by omega)
      rw [hfl] at ca
      have hkn : ∀ f : EN, f.k = e.k → (fs ++ [f]).map EN.k = (es.take (j + 1)).map EN.k := fun f hf => by rw [List.take_add_one, hej]; simp [hk, hf]
      have HX := Lib.hid (And.intro hO1 hkn)
      clear hL hk hO hc hm hsh hat hfar hej hb1 hL1 hO1 hat1 hfl hkn hbl hbg
      go_upto_region 11 with fail
      generalize wr.alloc (.cells #[.int .i64 e.t, .int .i64 e.x, .int .i64 e.c.e, .int .i64 e.c.b, .int .i64 e.c.k, .slice e.a1 e.c.M.length e.q1, .slice e.a2 e.c.C.length e.q2] 46) = w2 at *
      have d0 := cell_atD hy 0 (v := .int .i64 e.t) rfl
      have d1 := cell_atD hy 1 (v := .int .i64 e.x) rfl
      have d2 := cell_atD hy 2 (v := .int .i64 e.c.e) rfl
      have d3 := cell_atD hy 3 (v := .int .i64 e.c.b) rfl
      have d4 := cell_atD hy 4 (v := .int .i64 e.c.k) rfl
      have d5 := cell_atD hy 5 (v := .slice e.a1 e.c.M.length e.q1) rfl
      have d6 := cell_atD hy 6 (v := .slice e.a2 e.c.C.length e.q2) rfl
      clear hy k0 k1 k2 k3 k4 k5 k6
      go_wp2_with fail
      refine Calls.mono ca ?_
      rintro ev w3 ⟨rfl, b1, p1, b2, p2, v2, h2, hk2⟩
      have HF := Lib.hid (show AppR es w N g (j + 1) w3 from ⟨v2, _, h2, HX.out.2 _ rfl, HX.out.1.trans hk2⟩)
      clear h2 hk2 ca
      go_wp2_with fail
      go_roundw
      case rel => exact ⟨j + 1, by omega, by go_num, by go_num, HF⟩
      case measure => simp [intOf]; omega
    · obtain rfl : j = n := by omega
      go_wp2_with fail
      go_returns
      obtain ⟨v', fs, h1, h2, h3⟩ := HL.out
      exact ⟨by simp, v', fs, h1, by rw [h2, ← HN.out, List.take_length], h3⟩
end Go.Proofs.Ytkdmnhmlkcejfaa
