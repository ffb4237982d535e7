/-
  FlatBent: its law. Written by genbent.py.
-/
import Derived.Test.YtodjlaapmbnahaaMh7
import Derived.Test.YtodjlaapmbnahaaMh8
namespace Go.Proofs.Ytodjlaapmbnahaa
open Go.RowKit

theorem flatbent_law (a : Option Addr) (len cap : Nat) (k : Int) (s : ByteArray) (w : World) (hf : Fits w (.slice (.two (.int .i64) (.two (.two (.int .i64) (.two (.int .i64) (.two (.int .i64) (.two .str (.two .bool .unit))))) (.two .bool .unit)))) [.slice a len cap]) (hk : (Lit.int .i64 k).wf = true) (hs : s.size ≤ maxLen) :
    Calls Try.prog 4 #[.slice a len cap, .int .i64 k, .string s] w fun e w' => e = .returned (.bool true) ∧ Below w.heap.size w w' := by
  rcases (by omega : k % 4 = 0 ∨ k % 4 = 1 ∨ k % 4 = 2 ∨ k % 4 = 3) with h | h | h | h
  · exact flatbent_way0 a len cap k s w hf hk hs h
  · exact flatbent_way1 a len cap k s w hf hk hs h
  · exact flatbent_way2 a len cap k s w hf hk hs h
  · exact flatbent_way3 a len cap k s w hf hk hs h
end Go.Proofs.Ytodjlaapmbnahaa
