/- Some of the chapter's answers hold. No condition. -/
import Derived.Test.YtehakbijhkpbbaaVecG
import Derived.Test.YtehakbijhkpbbaaItems
import Derived.Deep.RegionWith
import Derived.Test.YtehakbijhkpbbaaCodecX
import Derived.Deep.RegionHeld3
import Derived.Deep.QuietTactic
import Derived.BigQuiet
import Derived.IntWalk
import Derived.Test.YtehakbijhkpbbaaLawA
import Derived.Deep.Cut
namespace Go.Proofs.Ytehakbijhkpbbaa
open Go.RowKit

/-- A call that only makes memory of its own answers v. -/
abbrev Ans (f : FuncId) (args : Array Value) (v : Value) : Prop := Hid (∀ w, Calls Try.prog f args w fun e w' => e = .returned v ∧ Frm (fun _ => False) w w')

theorem fEq (f g : Nat → Nat) (q : Bool) (h : eq8 f g = q) : ∀ w, (Op.equalIn 10000 24 (.agg (vv f)) (.agg (vv g))).run Try.prog w = .ok q w := fun w => by rw [run_eq_vec, h]

end Go.Proofs.Ytehakbijhkpbbaa

