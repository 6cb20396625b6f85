/-
  No cell of these rows narrows 'for every input' (looked for: loops, veiled, ifaces, maps, wideKeys, modest, calm, conditions, laid).
  DERIVED. THE GIVEN ROWS OF THIS SEAT. 5 by the template 'for every input the law returns true; each argument reads behind the call as it read before'; 0 by the template 'total and deterministic' (their statements: YtdhnidmeeocajaaGreatTotals.lean).
  GIVEN WITH THE SEED: the statements are not yours to turn. If you find one false, say at which input.
  Laid BY PROGRAM, IN A SANDBOX (cutbox-rows.mjs): the forced cells as the released guide's own fill.sh prints them over the translation 2a901ac905d9fa64… (all of the seat's roots in one cut). By AI agents, Wed Nov 11 2026. No macro, syntax, notation, axiom, sorry.
-/
import Derived.Test.YtdhnidmeeocajaaGreatChecked
import GoSem.Claim
import GoSem.ClaimJoined
import GoSem.ClaimMapViews
import Derived.JoinedTies
import Derived.KernelRfl
namespace Go.Proofs.YtdhnidmeeocajaaGreat
/- THE CELL 'sum', in the pinned program and in every row, IS THE sha256 OF THE DUMP (.gsa) THAT YtdhnidmeeocajaaGreatProg.lean LOADS. Nothing in Lean hashes anything: it is a label: what it is worth is what the hold of that sum in a sandbox is worth. -/
noncomputable def Tryz.pinned : Pinned := { name := "ytdhnidmeeocajaagreat", sum := "2a901ac905d9fa64722c20a1ff56ef5b4cfd839a0ad6754ddbbf628ff05af808", checked := Tryz.checked }
namespace Rows
def none {H : Type} : Left H := { results := [], args := [] }

/-- 'revertlaw13.RegionPlays': WHATEVER THE INPUT: true; the input reads as it did. -/
def regionPlaysSpec : ChangeSpec := { name := "regionPlays", fn := fun _ => fun
  | [d1, d2] => { results := [.lit (.bool true)], args := [d1, d2] }
  | _ => none }
def regionPlaysRow : OpenClaim := { program := "ytdhnidmeeocajaagreat", sum := "2a901ac905d9fa64722c20a1ff56ef5b4cfd839a0ad6754ddbbf628ff05af808", func := "revert/revertlaw13.RegionPlays", spec := "regionPlays", inPlace := ["internal/abi.NoEscape", "internal/bytealg.MakeNoZero"], unfollowed := true, recurses := true, apart := false }
def RegionPlaysSaid : Prop := regionPlaysRow.holds Tryz.pinned (OpenSpec.ofChange regionPlaysSpec)

/-- ITS FALSE NEIGHBOUR: 'it returns false'. Refute it at one input. -/
def regionPlaysWrong : ChangeSpec := { name := "regionPlays", fn := fun _ => fun
  | [d1, d2] => { results := [.lit (.bool false)], args := [d1, d2] }
  | _ => none }
def RegionPlaysWrongFalsely : Prop := regionPlaysRow.holds Tryz.pinned (OpenSpec.ofChange regionPlaysWrong)

/-- 'revertlaw13.RegionKnown': WHATEVER THE INPUT: true; the input reads as it did. -/
def regionKnownSpec : ChangeSpec := { name := "regionKnown", fn := fun _ => fun
  | [] => { results := [.lit (.bool true)], args := [] }
  | _ => none }
def regionKnownRow : OpenClaim := { program := "ytdhnidmeeocajaagreat", sum := "2a901ac905d9fa64722c20a1ff56ef5b4cfd839a0ad6754ddbbf628ff05af808", func := "revert/revertlaw13.RegionKnown", spec := "regionKnown", inPlace := ["internal/abi.NoEscape", "internal/bytealg.MakeNoZero"], unfollowed := true, recurses := true, apart := false }
def RegionKnownSaid : Prop := regionKnownRow.holds Tryz.pinned (OpenSpec.ofChange regionKnownSpec)

/-- ITS FALSE NEIGHBOUR: 'it returns false'. Refute it at one input. -/
def regionKnownWrong : ChangeSpec := { name := "regionKnown", fn := fun _ => fun
  | [] => { results := [.lit (.bool false)], args := [] }
  | _ => none }
def RegionKnownWrongFalsely : Prop := regionKnownRow.holds Tryz.pinned (OpenSpec.ofChange regionKnownWrong)

/-- 'revertlaw13.RegionTorn': WHATEVER THE INPUT: true; the input reads as it did. -/
def regionTornSpec : ChangeSpec := { name := "regionTorn", fn := fun _ => fun
  | [d1, d2, d3] => { results := [.lit (.bool true)], args := [d1, d2, d3] }
  | _ => none }
def regionTornRow : OpenClaim := { program := "ytdhnidmeeocajaagreat", sum := "2a901ac905d9fa64722c20a1ff56ef5b4cfd839a0ad6754ddbbf628ff05af808", func := "revert/revertlaw13.RegionTorn", spec := "regionTorn", inPlace := ["internal/abi.NoEscape", "internal/bytealg.MakeNoZero"], unfollowed := true, recurses := true, apart := false }
def RegionTornSaid : Prop := regionTornRow.holds Tryz.pinned (OpenSpec.ofChange regionTornSpec)

/-- ITS FALSE NEIGHBOUR: 'it returns false'. Refute it at one input. -/
def regionTornWrong : ChangeSpec := { name := "regionTorn", fn := fun _ => fun
  | [d1, d2, d3] => { results := [.lit (.bool false)], args := [d1, d2, d3] }
  | _ => none }
def RegionTornWrongFalsely : Prop := regionTornRow.holds Tryz.pinned (OpenSpec.ofChange regionTornWrong)

/-- 'revertlaw13.RegionFresh': WHATEVER THE INPUT: true; the input reads as it did. -/
def regionFreshSpec : ChangeSpec := { name := "regionFresh", fn := fun _ => fun
  | [d] => { results := [.lit (.bool true)], args := [d] }
  | _ => none }
def regionFreshRow : OpenClaim := { program := "ytdhnidmeeocajaagreat", sum := "2a901ac905d9fa64722c20a1ff56ef5b4cfd839a0ad6754ddbbf628ff05af808", func := "revert/revertlaw13.RegionFresh", spec := "regionFresh", inPlace := ["internal/abi.NoEscape", "internal/bytealg.MakeNoZero"], unfollowed := true, recurses := true, apart := false }
def RegionFreshSaid : Prop := regionFreshRow.holds Tryz.pinned (OpenSpec.ofChange regionFreshSpec)

/-- ITS FALSE NEIGHBOUR: 'it returns false'. Refute it at one input. -/
def regionFreshWrong : ChangeSpec := { name := "regionFresh", fn := fun _ => fun
  | [d] => { results := [.lit (.bool false)], args := [d] }
  | _ => none }
def RegionFreshWrongFalsely : Prop := regionFreshRow.holds Tryz.pinned (OpenSpec.ofChange regionFreshWrong)

/-- 'revertlaw13.RegionOnce': WHATEVER THE INPUT: true; the input reads as it did. -/
def regionOnceSpec : ChangeSpec := { name := "regionOnce", fn := fun _ => fun
  | [d] => { results := [.lit (.bool true)], args := [d] }
  | _ => none }
def regionOnceRow : OpenClaim := { program := "ytdhnidmeeocajaagreat", sum := "2a901ac905d9fa64722c20a1ff56ef5b4cfd839a0ad6754ddbbf628ff05af808", func := "revert/revertlaw13.RegionOnce", spec := "regionOnce", inPlace := ["internal/abi.NoEscape", "internal/bytealg.MakeNoZero", "maps.clone"], unfollowed := true, recurses := true, apart := false }
def RegionOnceSaid : Prop := regionOnceRow.holds Tryz.pinned (OpenSpec.ofChange regionOnceSpec)

/-- ITS FALSE NEIGHBOUR: 'it returns false'. Refute it at one input. -/
def regionOnceWrong : ChangeSpec := { name := "regionOnce", fn := fun _ => fun
  | [d] => { results := [.lit (.bool false)], args := [d] }
  | _ => none }
def RegionOnceWrongFalsely : Prop := regionOnceRow.holds Tryz.pinned (OpenSpec.ofChange regionOnceWrong)

/- THE SECOND FORM. 'bulk': how many values and letters a reading holds, each counted each time it is reached (what is shared counts as often as it is met; a slice's spare places count too). A statement '..UptoSaid' is the law's where the arguments, and the package variables that the reading takes, are together of bulk at most 1048576: NARROWER than '..Said'. Prove '..Said' where nothing that the law and all that it calls make is longer than what came in: it says more and counts as full. Else prove '..UptoSaid'. A law counts once. -/
mutual
def uptoBulk {H : Type} : DataW H → Nat
  | .lit (.string bytes) => bytes.length + 1
  | .lit _ => 1
  | .nil => 1
  | .ptr d => uptoBulk d + 1
  | .slice elems spare => uptoBulkAll elems + uptoBulkAll spare + 1
  | .agg parts => uptoBulkAll parts + 1
  | .iface _ d => uptoBulk d + 1
  | .map entries => uptoBulkEntries entries + 1
  | .held _ => 1
def uptoBulkAll {H : Type} : List (DataW H) → Nat
  | [] => 0
  | d :: r => uptoBulk d + uptoBulkAll r
def uptoBulkEntries {H : Type} : List (Lit × DataW H) → Nat
  | [] => 0
  | x :: r => uptoBulkEntry x + uptoBulkEntries r
def uptoBulkEntry {H : Type} : Lit × DataW H → Nat
  | (.string bytes, d) => bytes.length + uptoBulk d + 1
  | (_, d) => uptoBulk d + 1
 end
def uptoSmall : (H : Type) → List (DataW H) → Bool := fun _ ds => decide (uptoBulkAll ds ≤ 1048576)
def OpenSpec.upto (s : _root_.Go.ChangeSpec) : _root_.Go.OpenSpec := { _root_.Go.OpenSpec.ofChange s with cond := some uptoSmall }

/-- 'revertlaw13.RegionPlays', WHERE WHAT IT READS IS OF BULK AT MOST 1048576: true; the input reads as it did. -/
def regionPlaysUptoRow : OpenClaim := { program := "ytdhnidmeeocajaagreat", sum := "2a901ac905d9fa64722c20a1ff56ef5b4cfd839a0ad6754ddbbf628ff05af808", func := "revert/revertlaw13.RegionPlays", spec := "regionPlays", inPlace := ["internal/abi.NoEscape", "internal/bytealg.MakeNoZero"], unfollowed := true, recurses := true, apart := false, narrowed := true }
def RegionPlaysUptoSaid : Prop := regionPlaysUptoRow.holds Tryz.pinned (OpenSpec.upto regionPlaysSpec)

/-- 'revertlaw13.RegionKnown', WHERE WHAT IT READS IS OF BULK AT MOST 1048576: true; the input reads as it did. -/
def regionKnownUptoRow : OpenClaim := { program := "ytdhnidmeeocajaagreat", sum := "2a901ac905d9fa64722c20a1ff56ef5b4cfd839a0ad6754ddbbf628ff05af808", func := "revert/revertlaw13.RegionKnown", spec := "regionKnown", inPlace := ["internal/abi.NoEscape", "internal/bytealg.MakeNoZero"], unfollowed := true, recurses := true, apart := false, narrowed := true }
def RegionKnownUptoSaid : Prop := regionKnownUptoRow.holds Tryz.pinned (OpenSpec.upto regionKnownSpec)

/-- 'revertlaw13.RegionTorn', WHERE WHAT IT READS IS OF BULK AT MOST 1048576: true; the input reads as it did. -/
def regionTornUptoRow : OpenClaim := { program := "ytdhnidmeeocajaagreat", sum := "2a901ac905d9fa64722c20a1ff56ef5b4cfd839a0ad6754ddbbf628ff05af808", func := "revert/revertlaw13.RegionTorn", spec := "regionTorn", inPlace := ["internal/abi.NoEscape", "internal/bytealg.MakeNoZero"], unfollowed := true, recurses := true, apart := false, narrowed := true }
def RegionTornUptoSaid : Prop := regionTornUptoRow.holds Tryz.pinned (OpenSpec.upto regionTornSpec)

/-- 'revertlaw13.RegionFresh', WHERE WHAT IT READS IS OF BULK AT MOST 1048576: true; the input reads as it did. -/
def regionFreshUptoRow : OpenClaim := { program := "ytdhnidmeeocajaagreat", sum := "2a901ac905d9fa64722c20a1ff56ef5b4cfd839a0ad6754ddbbf628ff05af808", func := "revert/revertlaw13.RegionFresh", spec := "regionFresh", inPlace := ["internal/abi.NoEscape", "internal/bytealg.MakeNoZero"], unfollowed := true, recurses := true, apart := false, narrowed := true }
def RegionFreshUptoSaid : Prop := regionFreshUptoRow.holds Tryz.pinned (OpenSpec.upto regionFreshSpec)

/-- 'revertlaw13.RegionOnce', WHERE WHAT IT READS IS OF BULK AT MOST 1048576: true; the input reads as it did. -/
def regionOnceUptoRow : OpenClaim := { program := "ytdhnidmeeocajaagreat", sum := "2a901ac905d9fa64722c20a1ff56ef5b4cfd839a0ad6754ddbbf628ff05af808", func := "revert/revertlaw13.RegionOnce", spec := "regionOnce", inPlace := ["internal/abi.NoEscape", "internal/bytealg.MakeNoZero", "maps.clone"], unfollowed := true, recurses := true, apart := false, narrowed := true }
def RegionOnceUptoSaid : Prop := regionOnceUptoRow.holds Tryz.pinned (OpenSpec.upto regionOnceSpec)

end Rows
end Go.Proofs.YtdhnidmeeocajaaGreat
