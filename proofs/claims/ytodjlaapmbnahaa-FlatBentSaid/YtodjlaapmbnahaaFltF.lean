/-
  tarnref35: a volume in plain memory: New, May.
-/
import Derived.Test.YtodjlaapmbnahaaFltE
import Derived.Test.YtodjlaapmbnahaaConfB
import Derived.Test.YtodjlaapmbnahaaNeedD
namespace Go.Proofs.Ytodjlaapmbnahaa
open Go.RowKit
set_option linter.unusedVariables false
set_option linter.unusedSimpArgs false

def sCellsF (l : List ByteArray) : List Value := l.map Value.string
theorem sCellsF_length (l : List ByteArray) : (sCellsF l).length = l.length := by simp [sCellsF]
theorem sCellsF_one (l : List ByteArray) : ∀ y ∈ sCellsF l, y.oneCell' = true := fun y hy => by
  simp only [sCellsF, List.mem_map] at hy
  obtain ⟨x, -, rfl⟩ := hy
  rfl
theorem info_strF : (Try.prog.info? 9).map (fun i => (i.zero, i.size, i.bytes)) = some (some (.string ⟨#[]⟩), 1, 16) := by kernel_rfl
def RNewP (n : Nat) (w : World) (e : Ending) (w' : World) : Prop := ∃ v, e = .returned (.agg #[v]) ∧ w'.ownsRow w.heap.size 9 1 v n (sCellsF (List.replicate n (zeroL 32))) ∧ Below w.heap.size w w'
structure NewRel (Y k : Nat) (w1 wr : World) (w : World) : Prop where
  row : ∃ v, wr.heap[Y]? = some (.cells #[v] 47) ∧ wr.ownsRow w1.heap.size 9 1 v k (sCellsF (List.replicate k (zeroL 32)))
  only : Only Y w1 wr
theorem owns_keptF {w w' : World} {b base n size : Nat} {e : TypeId} {v : Value} {xs : List Value} (h : w.ownsRow base e size v n xs) (ho : Only b w w') (hb : b < base) : w'.ownsRow base e size v n xs := owns_kept h ho hb
set_option maxHeartbeats 3200000 in
set_option maxRecDepth 100000 in
theorem rnew35 (n : Nat) (w : World) (hn : n ≤ 64) : Calls Try.prog 16 #[.int .i64 n] w (RNewP n w) := by
  obtain ⟨i0, hi, hz0, hz1, hz2⟩ := info_parts info_strF
  obtain ⟨x0, x1, hb, hzz⟩ := two_newF w (.cells #[.slice none 0 0] 47) (.cells #[.slice none 0 0] 47)
  have H := Lib.hid (And.intro x0 (And.intro x1 (And.intro hb hzz)))
  clear x0 x1 hb hzz
  go_enter Try.func16, Try.ntmps16
  go_upto_region 2 with fail
  generalize (w.alloc (.cells #[.slice none 0 0] 47)).alloc (.cells #[.slice none 0 0] 47) = w1 at *
  go_wp2_with fail
  go_loopw [4] (fun i wr => ∃ k : Nat, k ≤ n ∧ i = .int .i64 (k : Int) ∧ Hid (NewRel (w.heap.size + 1) k w1 wr w)) (fun i _ => n - (intOf i).toNat)
  case atStart => exact ⟨0, Nat.zero_le _, rfl, Lib.hid ⟨⟨_, H.out.2.1, World.ownsRow_nil _ _ _ _⟩, Only.refl _ _⟩⟩
  case round =>
    obtain ⟨k, hk, rfl, HR⟩ := hrel
    by_cases hkn : k < n
    · have hkn' : (k : Int) < (n : Int) := by omega
      obtain ⟨v, hY, hown⟩ := HR.out.row
      have hsz := HR.out.only.size
      have hz1' : w1.heap.size = w.heap.size + 2 := H.out.2.2.2
      have cy : wr.cell? ⟨w.heap.size + 1, 0, none⟩ = some v := by simp [World.cell?, hY]
      have ny : (wr.alloc (.cells #[.string (zeroL 32)] 9)).cell? ⟨w.heap.size + 1, 0, none⟩ = some v := (World.cell?_alloc_lt wr _ ⟨w.heap.size + 1, 0, none⟩ (by show w.heap.size + 1 < _; omega)).trans cy
      have hneY : some (w.heap.size + 1) ≠ v.ownBlock := fun h => by have := (hown.lt _ h.symm).1; omega
      have HW := Lib.hid hown
      have HYr := Lib.hid hY
      have HK := Lib.hid (And.intro hk hkn)
      have HZ := Lib.hid (And.intro hsz hz1')
      clear hown hY hk hkn hsz hz1'
      go_upto_region 5 with fail
      go_region_law (first | (refine step_app Try.underlying45 hi hz0 hz1 hz2 rfl (by decide) rfl (.tmp 12) (.tmp 14) rfl w1.heap.size _ _ _ rfl ((HW.out.alloc (.cells #[.string (zeroL 32)] 9))) _ 1 [.string (zeroL 32)] rfl (SR.lit _ _ #[.string (zeroL 32)] 1 1 (by decide) rfl) (fun y hy => by simp at hy; subst hy; rfl) (by unfold maxLen; have := HK.out; omega) (by have := HK.out; omega) (by have := HZ.out; simp; omega) ?_; intro v2 w2 own2 hg2; obtain ⟨a2, p2, rfl⟩ := owns_form own2; have y2 := grown_block hg2 rfl HYr.out hneY; have c2 : w2.cell? ⟨w.heap.size + 1, 0, none⟩ = some v := (by simp [World.cell?, y2]); have f2 : w2.frozen? ⟨w.heap.size + 1, 0, none⟩ = false := (by simp [World.frozen?, y2])) | (go_wp2_with (go_at_call 15; refine Calls.mono (zeros_any _) ?_; rintro e wz ⟨rfl, rfl⟩)))
      all_goals
        have Y2 := Lib.hid y2
        have O2 := Lib.hid own2
        have G2 := Lib.hid (grown_only hg2 ⟨rfl, rfl, rfl, rfl⟩ HR.out.only (fun q hq => (HW.out.lt q hq).1))
        clear y2 c2 f2 own2 hg2 ny
        go_wp2_with fail
        go_roundw
        case rel =>
          exact ⟨k + 1, HK.out.2, by simp, Lib.hid ⟨⟨_, heap_set_self Y2.out 0 _, by rw [List.replicate_succ', sCellsF, List.map_append]; exact owns_keptF O2.out ((Only.refl _ _).set 0 _) (by have := HZ.out; omega)⟩, G2.out.set 0 _⟩⟩
        case measure =>
          have hm2 := meas_k HK.out.2
          exact hm2
    · obtain rfl : k = n := by omega
      obtain ⟨v, hY, hown⟩ := HR.out.row
      have hXr := (HR.out.only.block w.heap.size (lt_heap H.out.1) (by omega)).trans H.out.1
      have cy : wr.cell? ⟨w.heap.size + 1, 0, none⟩ = some v := by simp [World.cell?, hY]
      have cx : wr.cell? ⟨w.heap.size, 0, none⟩ = some (.slice none 0 0) := by simp [World.cell?, hXr]
      have fx : wr.frozen? ⟨w.heap.size, 0, none⟩ = false := by simp [World.frozen?, hXr]
      have g1 := heap_set_self hXr 0 v
      have HF := Lib.hid (show (wr.setCell ⟨w.heap.size, 0, none⟩ v).ownsRow w.heap.size 9 1 v k (sCellsF (List.replicate k (zeroL 32))) ∧ Below w.heap.size w (wr.setCell ⟨w.heap.size, 0, none⟩ v) from by
        have hz := H.out.2.2.2
        refine ⟨?_, ((H.out.2.2.1.trans (HR.out.only.below (by omega) (by omega))).trans (((Only.refl w.heap.size wr).set 0 v).below (Nat.le_refl _) (by have := HR.out.only.size; omega)))⟩
        have h1 : (wr.setCell ⟨w.heap.size, 0, none⟩ v).ownsRow w1.heap.size 9 1 v k (sCellsF (List.replicate k (zeroL 32))) := owns_keptF hown ((Only.refl _ _).set 0 v) (by omega)
        exact owns_lower h1 (by omega))
      have G1 := Lib.hid g1
      obtain ⟨a, c, rfl⟩ := owns_form hown
      clear hY hown hXr g1 hk hkn
      go_wp2_with fail
      generalize wr.setCell ⟨w.heap.size, 0, none⟩ (.slice a k c) = wf at *
      have y0 : wf.cell? ⟨w.heap.size, 0, none⟩ = some (.slice a k c) := by have := G1.out; simp [World.cell?, this]
      refine bodyPost_ret (v := .agg #[.slice a k c]) (by simp [results, Try.results16, go_sem, y0]) rfl ?_
      exact ⟨_, rfl, HF.out⟩
end Go.Proofs.Ytodjlaapmbnahaa
