/-
  flat.Spans: how many spans a block has, and whether each value was written once.
-/
import Derived.Test.YtodjlaapmbnahaaFsD
namespace Go.Proofs.Ytodjlaapmbnahaa
open Go.RowKit
set_option linter.unusedVariables false
set_option linter.unusedSimpArgs false

def FSpP (x : Option (List Sp)) (w : World) (e : Ending) (w' : World) : Prop := (match x with
  | none => e = .returned (.tuple #[.slice none 0 0, .bool false])
  | some L => ∃ a c, e = .returned (.tuple #[.slice a L.length c, .bool true])) ∧ Below w.heap.size w w'
set_option maxHeartbeats 3200000 in
set_option maxRecDepth 100000 in
theorem pfspans (E : List Ev) (B block : Int) (v : Value) (w : World) (hE : Elts w Ev.c 10 v E) (hok : ∀ e ∈ E, EvOk e) (hn : E.length ≤ 2000) (hus : ∀ u ∈ usesN E B block E.length, UsOk u) :
    Calls Try.prog 7 #[v, .int .i64 B, .int .i64 block] w (FSpP (spansL initS (usesN E B block E.length)) w) := by
  have c1 := puses E B block v w hE hok (by omega)
  have hul := uses_len E B block E.length
  obtain ⟨us, hus'⟩ : ∃ us, usesN E B block E.length = us := ⟨_, rfl⟩
  unfold UsesP at c1
  rw [hus'] at c1 hul hus ⊢
  clear hus'
  go_enter Try.func7, Try.ntmps7
  go_wp2_with fail
  refine Calls.mono c1 ?_
  rintro e w1 ⟨uv, rfl, hown, hb1⟩
  have c2 := pspans us (by omega) hus uv w1 (elts_sr (c := Us.c) (sz := 4) (fun _ => rfl) (SR.owns hown))
  have HB1 := Lib.hid hb1
  clear c1 hb1 hown hE
  go_wp2_with fail
  refine Calls.mono c2 ?_
  rintro e w2 hsp
  unfold SpansP at hsp
  change (match spansL initS us with | none => _ | some L => _) at hsp
  clear c2
  cases hL : spansL initS us with
  | none =>
    rw [hL] at hsp
    obtain ⟨rfl, hb2⟩ := hsp
    have HF := Lib.hid (HB1.out.trans (hb2.mono HB1.out.size))
    clear hb2
    go_wp2_with fail
    go_returns
    rw [hL]
    exact ⟨rfl, HF.out⟩
  | some L =>
    rw [hL] at hsp
    obtain ⟨sv, wv, rfl, hs, hw, hb2⟩ := hsp
    have HF := Lib.hid (HB1.out.trans (hb2.mono HB1.out.size))
    obtain ⟨sa, sc, rfl⟩ := rowForm hs
    clear hb2 hs hw
    go_wp2_with fail
    go_returns
    rw [hL]
    exact ⟨⟨sa, sc, rfl⟩, HF.out⟩
end Go.Proofs.Ytodjlaapmbnahaa
