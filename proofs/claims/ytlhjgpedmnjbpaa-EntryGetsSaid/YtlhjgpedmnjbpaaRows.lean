/-
  No cell of these rows narrows 'for every input' (looked for: loops, veiled, ifaces, maps, wideKeys, modest, calm, conditions, laid).
  DERIVED. THE GIVEN ROWS OF THIS SEAT. 9 by the template 'for every input the law returns true; each argument reads behind the call as it read before'; 0 by the template 'total and deterministic' (their statements: YtlhjgpedmnjbpaaTotals.lean).
  GIVEN WITH THE SEED: the statements are not yours to turn. If you find one false, say at which input.
  Laid BY PROGRAM, IN A SANDBOX (cutbox-rows.mjs): the forced cells as the released guide's own fill.sh prints them over the translation 94aa72aad05eb6e7… (all of the seat's roots in one cut). By AI agents, Wed Nov 11 2026. No macro, syntax, notation, axiom, sorry.
-/
import Derived.Test.YtlhjgpedmnjbpaaChecked
import GoSem.Claim
import GoSem.ClaimJoined
import GoSem.ClaimMapViews
import Derived.JoinedTies
import Derived.KernelRfl
namespace Go.Proofs.Ytlhjgpedmnjbpaa
/- THE CELL 'sum', in the pinned program and in every row, IS THE sha256 OF THE DUMP (.gsa) THAT YtlhjgpedmnjbpaaProg.lean LOADS. Nothing in Lean hashes anything: it is a label: what it is worth is what the hold of that sum in a sandbox is worth. -/
noncomputable def Try.pinned : Pinned := { name := "ytlhjgpedmnjbpaa", sum := "94aa72aad05eb6e731eb05b1d2a7ab4220f1517e75ec4327e3aa3e699d3e9c89", checked := Try.checked }
namespace Rows
def none {H : Type} : Left H := { results := [], args := [] }

/-- 'tarnlaw12.DecideTakes': WHATEVER THE INPUT: true; the input reads as it did. -/
def decideTakesSpec : ChangeSpec := { name := "decideTakes", fn := fun _ => fun
  | [d1, d2, d3] => { results := [.lit (.bool true)], args := [d1, d2, d3] }
  | _ => none }
def decideTakesRow : OpenClaim := { program := "ytlhjgpedmnjbpaa", sum := "94aa72aad05eb6e731eb05b1d2a7ab4220f1517e75ec4327e3aa3e699d3e9c89", func := "tarn/tarnlaw12.DecideTakes", spec := "decideTakes", recurses := true, apart := false }
def DecideTakesSaid : Prop := decideTakesRow.holds Try.pinned (OpenSpec.ofChange decideTakesSpec)

/-- ITS FALSE NEIGHBOUR: 'it returns false'. Refute it at one input. -/
def decideTakesWrong : ChangeSpec := { name := "decideTakes", fn := fun _ => fun
  | [d1, d2, d3] => { results := [.lit (.bool false)], args := [d1, d2, d3] }
  | _ => none }
def DecideTakesWrongFalsely : Prop := decideTakesRow.holds Try.pinned (OpenSpec.ofChange decideTakesWrong)

/-- 'tarnlaw13.EntryGets': WHATEVER THE INPUT: true; the input reads as it did. -/
def entryGetsSpec : ChangeSpec := { name := "entryGets", fn := fun _ => fun
  | [d1, d2, d3] => { results := [.lit (.bool true)], args := [d1, d2, d3] }
  | _ => none }
def entryGetsRow : OpenClaim := { program := "ytlhjgpedmnjbpaa", sum := "94aa72aad05eb6e731eb05b1d2a7ab4220f1517e75ec4327e3aa3e699d3e9c89", func := "tarn/tarnlaw13.EntryGets", spec := "entryGets", recurses := true, apart := false }
def EntryGetsSaid : Prop := entryGetsRow.holds Try.pinned (OpenSpec.ofChange entryGetsSpec)

/-- ITS FALSE NEIGHBOUR: 'it returns false'. Refute it at one input. -/
def entryGetsWrong : ChangeSpec := { name := "entryGets", fn := fun _ => fun
  | [d1, d2, d3] => { results := [.lit (.bool false)], args := [d1, d2, d3] }
  | _ => none }
def EntryGetsWrongFalsely : Prop := entryGetsRow.holds Try.pinned (OpenSpec.ofChange entryGetsWrong)

/-- 'tarnlaw13.EntryEqual': WHATEVER THE INPUT: true; the input reads as it did. -/
def entryEqualSpec : ChangeSpec := { name := "entryEqual", fn := fun _ => fun
  | [d1, d2, d3] => { results := [.lit (.bool true)], args := [d1, d2, d3] }
  | _ => none }
def entryEqualRow : OpenClaim := { program := "ytlhjgpedmnjbpaa", sum := "94aa72aad05eb6e731eb05b1d2a7ab4220f1517e75ec4327e3aa3e699d3e9c89", func := "tarn/tarnlaw13.EntryEqual", spec := "entryEqual", unfollowed := true, recurses := true, apart := false }
def EntryEqualSaid : Prop := entryEqualRow.holds Try.pinned (OpenSpec.ofChange entryEqualSpec)

/-- ITS FALSE NEIGHBOUR: 'it returns false'. Refute it at one input. -/
def entryEqualWrong : ChangeSpec := { name := "entryEqual", fn := fun _ => fun
  | [d1, d2, d3] => { results := [.lit (.bool false)], args := [d1, d2, d3] }
  | _ => none }
def EntryEqualWrongFalsely : Prop := entryEqualRow.holds Try.pinned (OpenSpec.ofChange entryEqualWrong)

/-- 'tarnlaw16.RlogPlays': WHATEVER THE INPUT: true; the input reads as it did. -/
def rlogPlaysSpec : ChangeSpec := { name := "rlogPlays", fn := fun _ => fun
  | [d] => { results := [.lit (.bool true)], args := [d] }
  | _ => none }
def rlogPlaysRow : OpenClaim := { program := "ytlhjgpedmnjbpaa", sum := "94aa72aad05eb6e731eb05b1d2a7ab4220f1517e75ec4327e3aa3e699d3e9c89", func := "tarn/tarnlaw16.RlogPlays", spec := "rlogPlays", apart := false }
def RlogPlaysSaid : Prop := rlogPlaysRow.holds Try.pinned (OpenSpec.ofChange rlogPlaysSpec)

/-- ITS FALSE NEIGHBOUR: 'it returns false'. Refute it at one input. -/
def rlogPlaysWrong : ChangeSpec := { name := "rlogPlays", fn := fun _ => fun
  | [d] => { results := [.lit (.bool false)], args := [d] }
  | _ => none }
def RlogPlaysWrongFalsely : Prop := rlogPlaysRow.holds Try.pinned (OpenSpec.ofChange rlogPlaysWrong)

/-- 'tarnlaw35.FlatDoes': WHATEVER THE INPUT: true; the input reads as it did. -/
def flatDoesSpec : ChangeSpec := { name := "flatDoes", fn := fun _ => fun
  | [d1, d2, d3] => { results := [.lit (.bool true)], args := [d1, d2, d3] }
  | _ => none }
def flatDoesRow : OpenClaim := { program := "ytlhjgpedmnjbpaa", sum := "94aa72aad05eb6e731eb05b1d2a7ab4220f1517e75ec4327e3aa3e699d3e9c89", func := "tarn/tarnlaw35.FlatDoes", spec := "flatDoes", inPlace := ["internal/abi.NoEscape", "internal/bytealg.MakeNoZero"], apart := false }
def FlatDoesSaid : Prop := flatDoesRow.holds Try.pinned (OpenSpec.ofChange flatDoesSpec)

/-- ITS FALSE NEIGHBOUR: 'it returns false'. Refute it at one input. -/
def flatDoesWrong : ChangeSpec := { name := "flatDoes", fn := fun _ => fun
  | [d1, d2, d3] => { results := [.lit (.bool false)], args := [d1, d2, d3] }
  | _ => none }
def FlatDoesWrongFalsely : Prop := flatDoesRow.holds Try.pinned (OpenSpec.ofChange flatDoesWrong)

/-- 'tarnlaw55.PledgeSerial': WHATEVER THE INPUT: true; the input reads as it did. -/
def pledgeSerialSpec : ChangeSpec := { name := "pledgeSerial", fn := fun _ => fun
  | [d1, d2] => { results := [.lit (.bool true)], args := [d1, d2] }
  | _ => none }
def pledgeSerialRow : OpenClaim := { program := "ytlhjgpedmnjbpaa", sum := "94aa72aad05eb6e731eb05b1d2a7ab4220f1517e75ec4327e3aa3e699d3e9c89", func := "tarn/tarnlaw55.PledgeSerial", spec := "pledgeSerial", inPlace := ["internal/abi.NoEscape", "internal/bytealg.MakeNoZero"], unfollowed := true, recurses := true, apart := false }
def PledgeSerialSaid : Prop := pledgeSerialRow.holds Try.pinned (OpenSpec.ofChange pledgeSerialSpec)

/-- ITS FALSE NEIGHBOUR: 'it returns false'. Refute it at one input. -/
def pledgeSerialWrong : ChangeSpec := { name := "pledgeSerial", fn := fun _ => fun
  | [d1, d2] => { results := [.lit (.bool false)], args := [d1, d2] }
  | _ => none }
def PledgeSerialWrongFalsely : Prop := pledgeSerialRow.holds Try.pinned (OpenSpec.ofChange pledgeSerialWrong)

/-- 'tarnlaw56.ImagePacks': WHATEVER THE INPUT: true; the input reads as it did. -/
def imagePacksSpec : ChangeSpec := { name := "imagePacks", fn := fun _ => fun
  | [d1, d2] => { results := [.lit (.bool true)], args := [d1, d2] }
  | _ => none }
def imagePacksRow : OpenClaim := { program := "ytlhjgpedmnjbpaa", sum := "94aa72aad05eb6e731eb05b1d2a7ab4220f1517e75ec4327e3aa3e699d3e9c89", func := "tarn/tarnlaw56.ImagePacks", spec := "imagePacks", inPlace := ["internal/abi.NoEscape", "internal/bytealg.MakeNoZero"], unfollowed := true, recurses := true, apart := false }
def ImagePacksSaid : Prop := imagePacksRow.holds Try.pinned (OpenSpec.ofChange imagePacksSpec)

/-- ITS FALSE NEIGHBOUR: 'it returns false'. Refute it at one input. -/
def imagePacksWrong : ChangeSpec := { name := "imagePacks", fn := fun _ => fun
  | [d1, d2] => { results := [.lit (.bool false)], args := [d1, d2] }
  | _ => none }
def ImagePacksWrongFalsely : Prop := imagePacksRow.holds Try.pinned (OpenSpec.ofChange imagePacksWrong)

/-- 'tarnlaw56.ImageUnpacks': WHATEVER THE INPUT: true; the input reads as it did. -/
def imageUnpacksSpec : ChangeSpec := { name := "imageUnpacks", fn := fun _ => fun
  | [d1, d2] => { results := [.lit (.bool true)], args := [d1, d2] }
  | _ => none }
def imageUnpacksRow : OpenClaim := { program := "ytlhjgpedmnjbpaa", sum := "94aa72aad05eb6e731eb05b1d2a7ab4220f1517e75ec4327e3aa3e699d3e9c89", func := "tarn/tarnlaw56.ImageUnpacks", spec := "imageUnpacks", inPlace := ["internal/abi.NoEscape", "internal/bytealg.MakeNoZero"], unfollowed := true, recurses := true, apart := false }
def ImageUnpacksSaid : Prop := imageUnpacksRow.holds Try.pinned (OpenSpec.ofChange imageUnpacksSpec)

/-- ITS FALSE NEIGHBOUR: 'it returns false'. Refute it at one input. -/
def imageUnpacksWrong : ChangeSpec := { name := "imageUnpacks", fn := fun _ => fun
  | [d1, d2] => { results := [.lit (.bool false)], args := [d1, d2] }
  | _ => none }
def ImageUnpacksWrongFalsely : Prop := imageUnpacksRow.holds Try.pinned (OpenSpec.ofChange imageUnpacksWrong)

/-- 'tarnlaw56.ImageLays': WHATEVER THE INPUT: true; the input reads as it did. -/
def imageLaysSpec : ChangeSpec := { name := "imageLays", fn := fun _ => fun
  | [d1, d2, d3] => { results := [.lit (.bool true)], args := [d1, d2, d3] }
  | _ => none }
def imageLaysRow : OpenClaim := { program := "ytlhjgpedmnjbpaa", sum := "94aa72aad05eb6e731eb05b1d2a7ab4220f1517e75ec4327e3aa3e699d3e9c89", func := "tarn/tarnlaw56.ImageLays", spec := "imageLays", inPlace := ["internal/abi.NoEscape", "internal/bytealg.MakeNoZero"], unfollowed := true, recurses := true, apart := false }
def ImageLaysSaid : Prop := imageLaysRow.holds Try.pinned (OpenSpec.ofChange imageLaysSpec)

/-- ITS FALSE NEIGHBOUR: 'it returns false'. Refute it at one input. -/
def imageLaysWrong : ChangeSpec := { name := "imageLays", fn := fun _ => fun
  | [d1, d2, d3] => { results := [.lit (.bool false)], args := [d1, d2, d3] }
  | _ => none }
def ImageLaysWrongFalsely : Prop := imageLaysRow.holds Try.pinned (OpenSpec.ofChange imageLaysWrong)

/- THE SECOND FORM. 'bulk': how many values and letters a reading holds, each counted each time it is reached (what is shared counts as often as it is met; a slice's spare places count too). A statement '..UptoSaid' is the law's where the arguments, and the package variables that the reading takes, are together of bulk at most 1048576: NARROWER than '..Said'. Prove '..Said' where nothing that the law and all that it calls make is longer than what came in: it says more and counts as full. Else prove '..UptoSaid'. A law counts once. -/
mutual
def uptoBulk {H : Type} : DataW H → Nat
  | .lit (.string bytes) => bytes.length + 1
  | .lit _ => 1
  | .nil => 1
  | .ptr d => uptoBulk d + 1
  | .slice elems spare => uptoBulkAll elems + uptoBulkAll spare + 1
  | .agg parts => uptoBulkAll parts + 1
  | .iface _ d => uptoBulk d + 1
  | .map entries => uptoBulkEntries entries + 1
  | .held _ => 1
def uptoBulkAll {H : Type} : List (DataW H) → Nat
  | [] => 0
  | d :: r => uptoBulk d + uptoBulkAll r
def uptoBulkEntries {H : Type} : List (Lit × DataW H) → Nat
  | [] => 0
  | x :: r => uptoBulkEntry x + uptoBulkEntries r
def uptoBulkEntry {H : Type} : Lit × DataW H → Nat
  | (.string bytes, d) => bytes.length + uptoBulk d + 1
  | (_, d) => uptoBulk d + 1
 end
def uptoSmall : (H : Type) → List (DataW H) → Bool := fun _ ds => decide (uptoBulkAll ds ≤ 1048576)
def OpenSpec.upto (s : _root_.Go.ChangeSpec) : _root_.Go.OpenSpec := { _root_.Go.OpenSpec.ofChange s with cond := some uptoSmall }

/-- 'tarnlaw12.DecideTakes', WHERE WHAT IT READS IS OF BULK AT MOST 1048576: true; the input reads as it did. -/
def decideTakesUptoRow : OpenClaim := { program := "ytlhjgpedmnjbpaa", sum := "94aa72aad05eb6e731eb05b1d2a7ab4220f1517e75ec4327e3aa3e699d3e9c89", func := "tarn/tarnlaw12.DecideTakes", spec := "decideTakes", recurses := true, apart := false, narrowed := true }
def DecideTakesUptoSaid : Prop := decideTakesUptoRow.holds Try.pinned (OpenSpec.upto decideTakesSpec)

/-- 'tarnlaw13.EntryGets', WHERE WHAT IT READS IS OF BULK AT MOST 1048576: true; the input reads as it did. -/
def entryGetsUptoRow : OpenClaim := { program := "ytlhjgpedmnjbpaa", sum := "94aa72aad05eb6e731eb05b1d2a7ab4220f1517e75ec4327e3aa3e699d3e9c89", func := "tarn/tarnlaw13.EntryGets", spec := "entryGets", recurses := true, apart := false, narrowed := true }
def EntryGetsUptoSaid : Prop := entryGetsUptoRow.holds Try.pinned (OpenSpec.upto entryGetsSpec)

/-- 'tarnlaw13.EntryEqual', WHERE WHAT IT READS IS OF BULK AT MOST 1048576: true; the input reads as it did. -/
def entryEqualUptoRow : OpenClaim := { program := "ytlhjgpedmnjbpaa", sum := "94aa72aad05eb6e731eb05b1d2a7ab4220f1517e75ec4327e3aa3e699d3e9c89", func := "tarn/tarnlaw13.EntryEqual", spec := "entryEqual", unfollowed := true, recurses := true, apart := false, narrowed := true }
def EntryEqualUptoSaid : Prop := entryEqualUptoRow.holds Try.pinned (OpenSpec.upto entryEqualSpec)

/-- 'tarnlaw16.RlogPlays', WHERE WHAT IT READS IS OF BULK AT MOST 1048576: true; the input reads as it did. -/
def rlogPlaysUptoRow : OpenClaim := { program := "ytlhjgpedmnjbpaa", sum := "94aa72aad05eb6e731eb05b1d2a7ab4220f1517e75ec4327e3aa3e699d3e9c89", func := "tarn/tarnlaw16.RlogPlays", spec := "rlogPlays", apart := false, narrowed := true }
def RlogPlaysUptoSaid : Prop := rlogPlaysUptoRow.holds Try.pinned (OpenSpec.upto rlogPlaysSpec)

/-- 'tarnlaw35.FlatDoes', WHERE WHAT IT READS IS OF BULK AT MOST 1048576: true; the input reads as it did. -/
def flatDoesUptoRow : OpenClaim := { program := "ytlhjgpedmnjbpaa", sum := "94aa72aad05eb6e731eb05b1d2a7ab4220f1517e75ec4327e3aa3e699d3e9c89", func := "tarn/tarnlaw35.FlatDoes", spec := "flatDoes", inPlace := ["internal/abi.NoEscape", "internal/bytealg.MakeNoZero"], apart := false, narrowed := true }
def FlatDoesUptoSaid : Prop := flatDoesUptoRow.holds Try.pinned (OpenSpec.upto flatDoesSpec)

/-- 'tarnlaw55.PledgeSerial', WHERE WHAT IT READS IS OF BULK AT MOST 1048576: true; the input reads as it did. -/
def pledgeSerialUptoRow : OpenClaim := { program := "ytlhjgpedmnjbpaa", sum := "94aa72aad05eb6e731eb05b1d2a7ab4220f1517e75ec4327e3aa3e699d3e9c89", func := "tarn/tarnlaw55.PledgeSerial", spec := "pledgeSerial", inPlace := ["internal/abi.NoEscape", "internal/bytealg.MakeNoZero"], unfollowed := true, recurses := true, apart := false, narrowed := true }
def PledgeSerialUptoSaid : Prop := pledgeSerialUptoRow.holds Try.pinned (OpenSpec.upto pledgeSerialSpec)

/-- 'tarnlaw56.ImagePacks', WHERE WHAT IT READS IS OF BULK AT MOST 1048576: true; the input reads as it did. -/
def imagePacksUptoRow : OpenClaim := { program := "ytlhjgpedmnjbpaa", sum := "94aa72aad05eb6e731eb05b1d2a7ab4220f1517e75ec4327e3aa3e699d3e9c89", func := "tarn/tarnlaw56.ImagePacks", spec := "imagePacks", inPlace := ["internal/abi.NoEscape", "internal/bytealg.MakeNoZero"], unfollowed := true, recurses := true, apart := false, narrowed := true }
def ImagePacksUptoSaid : Prop := imagePacksUptoRow.holds Try.pinned (OpenSpec.upto imagePacksSpec)

/-- 'tarnlaw56.ImageUnpacks', WHERE WHAT IT READS IS OF BULK AT MOST 1048576: true; the input reads as it did. -/
def imageUnpacksUptoRow : OpenClaim := { program := "ytlhjgpedmnjbpaa", sum := "94aa72aad05eb6e731eb05b1d2a7ab4220f1517e75ec4327e3aa3e699d3e9c89", func := "tarn/tarnlaw56.ImageUnpacks", spec := "imageUnpacks", inPlace := ["internal/abi.NoEscape", "internal/bytealg.MakeNoZero"], unfollowed := true, recurses := true, apart := false, narrowed := true }
def ImageUnpacksUptoSaid : Prop := imageUnpacksUptoRow.holds Try.pinned (OpenSpec.upto imageUnpacksSpec)

/-- 'tarnlaw56.ImageLays', WHERE WHAT IT READS IS OF BULK AT MOST 1048576: true; the input reads as it did. -/
def imageLaysUptoRow : OpenClaim := { program := "ytlhjgpedmnjbpaa", sum := "94aa72aad05eb6e731eb05b1d2a7ab4220f1517e75ec4327e3aa3e699d3e9c89", func := "tarn/tarnlaw56.ImageLays", spec := "imageLays", inPlace := ["internal/abi.NoEscape", "internal/bytealg.MakeNoZero"], unfollowed := true, recurses := true, apart := false, narrowed := true }
def ImageLaysUptoSaid : Prop := imageLaysUptoRow.holds Try.pinned (OpenSpec.upto imageLaysSpec)

end Rows
end Go.Proofs.Ytlhjgpedmnjbpaa
