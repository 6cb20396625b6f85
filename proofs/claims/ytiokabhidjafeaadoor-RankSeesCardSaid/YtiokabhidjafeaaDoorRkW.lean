/- What at answers: what is seen at a name. No condition. -/
import Derived.Test.YtiokabhidjafeaaDoorRkV
namespace Go.Proofs.YtiokabhidjafeaaDoor
open Go.RowKit

set_option maxRecDepth 100000 in
set_option maxHeartbeats 2000000 in
theorem at14_any (f : Nat → Nat) (nm : List UInt8) (cf : List UInt8 → DotI → List UInt8) (v : Value) (l : List SibI) (q : Bool) (w : World) (h : SL w v l) (hs : ∀ x ∈ l, x.s.length ≤ 200) (hb : l.length ≤ 1000)
    (hcf : ∀ (d : DotI) (W : World), Frm (fun _ => False) w W → Calls Tryd.prog 38 #[.string (bs nm), .agg #[.int .u8 (d.r : Int), .int .u32 (d.n : Int)]] W fun e w' => ∃ er, e = .returned (.tuple #[.string (bs (cf nm d)), er]) ∧ Frm (fun _ => False) W w') :
    Calls Tryd.prog 14 #[rg f v, .string (bs nm), .bool q] w (AtTo (seenA cf nm (sameR q) isDir l) w) := by
  obtain ⟨a0, c0, rfl, _, _⟩ := h.slice
  have f0 : Frm (fun _ => False) w (w.alloc (.cells (rgc f (.slice a0 l.length c0)) 27)) := (Frm.refl _ w).alloc _
  have HF := Lib.hid f0
  have hmf : ∀ (fn : Fn) (first cap : Array Value) (w : World), (Instr.makeFunc fn first cap).run Tryd.prog w = .ok (.func fn first cap) w := fun _ _ _ _ => rfl
  cases q with
  | true =>
    have HJ := Lib.hid (at_any f nm cf isDir (sameR true) (.slice a0 l.length c0) (.func (.func 29) #[] #[]) (.func (.func 26) #[] #[]) l (w.alloc (.cells (rgc f (.slice a0 l.length c0)) 27)) (h.keepF f0) (dir_to _) (same_loose _) hs hb (fun d W g => hcf d W (f0.trans g)))
    clear h hs hcf f0
    go_enter Tryd.func14, Tryd.ntmps14
    go_wp2_with fail
    refine HJ.out.mono ?_
    rintro e w1 ⟨u, P, rfl, h1, h2, h3⟩
    have H1 := Lib.hid (And.intro h1 (And.intro h2 h3))
    obtain ⟨a8, c8, rfl, _, _⟩ := Row.slice h1.row
    clear h1 h2 h3
    go_wp2_with fail
    go_ret
    have hs0 := HF.out.size
    exact ⟨_, P, rfl, ⟨H1.out.1.row, H1.out.1.dots, H1.out.1.apart, H1.out.1.apu, fun g e => by have := H1.out.1.lo g e; omega, fun i hi g e => by have := H1.out.1.lod i hi g e; omega⟩, H1.out.2.1, HF.out.trans H1.out.2.2⟩
  | false =>
    have HJ := Lib.hid (at_any f nm cf isDir (sameR false) (.slice a0 l.length c0) (.func (.func 29) #[] #[]) (.func (.func 25) #[] #[]) l (w.alloc (.cells (rgc f (.slice a0 l.length c0)) 27)) (h.keepF f0) (dir_to _) (same_just _) hs hb (fun d W g => hcf d W (f0.trans g)))
    clear h hs hcf f0
    go_enter Tryd.func14, Tryd.ntmps14
    go_wp2_with fail
    refine HJ.out.mono ?_
    rintro e w1 ⟨u, P, rfl, h1, h2, h3⟩
    have H1 := Lib.hid (And.intro h1 (And.intro h2 h3))
    obtain ⟨a8, c8, rfl, _, _⟩ := Row.slice h1.row
    clear h1 h2 h3
    go_wp2_with fail
    go_ret
    have hs0 := HF.out.size
    exact ⟨_, P, rfl, ⟨H1.out.1.row, H1.out.1.dots, H1.out.1.apart, H1.out.1.apu, fun g e => by have := H1.out.1.lo g e; omega, fun i hi g e => by have := H1.out.1.lod i hi g e; omega⟩, H1.out.2.1, HF.out.trans H1.out.2.2⟩
end Go.Proofs.YtiokabhidjafeaaDoor

