/- What tells whether a value is the same as a group's: rank's own closures. No condition but that what is handed in as same answers, and leaves all as it lay. -/
import Derived.Test.YtiokabhidjafeaaDoorSibD
import Derived.Test.YtiokabhidjafeaaDoorInR
import Derived.Defers
import Derived.Recover
namespace Go.Proofs.YtiokabhidjafeaaDoor
open Go.RowKit

theorem holds1_idle (w : World) : CallsD Tryd.prog 98 #[] .returning w fun e u' w' => e = .returned (.tuple #[]) ∧ u' = .returning ∧ w' = w := by
  refine callsD_of_wpS Tryd.func98 rfl fun c₀ cs hu => ?_
  apply wpS_region
  simp [wpOpsS, go_sem, recoverD, hu, Tryd.ntmps98, bodyPostS, results, Tryd.results98]
  cases c₀
  simp only at hu
  subst hu
  rfl
theorem holds_any (gf : FuncId) (caps : Array Value) (q : Bool) (w : World) (hen : ∀ args W, (callFunc gf args).run Tryd.prog W = .ok (.enter gf args) W)
    (hc : Calls Tryd.prog gf caps w fun e w' => e = .returned (.bool q) ∧ Frm (fun _ => False) w w') :
    Calls Tryd.prog 74 #[.func (.func gf) #[] caps] w fun e w' => e = .returned (.bool q) ∧ Frm (fun _ => False) w w' := by
  have hmf : ∀ (fn : Fn) (first cap : Array Value) (w : World), (Instr.makeFunc fn first cap).run Tryd.prog w = .ok (.func fn first cap) w := fun _ _ _ _ => rfl
  have HC := Lib.hid hc
  clear hc
  go_enter_defers Tryd.func74, Tryd.ntmps74
  go_wp2_with fail
  refine HC.out.mono ?_
  rintro e w1 ⟨rfl, g1⟩
  go_wp2_with fail
  refine leaves_cons (f := 98) (args := #[]) (by simp) (by simp [go_sem]) ?_
  refine (holds1_idle _).mono ?_
  rintro e u' w'' ⟨rfl, rfl, rfl⟩
  simp [Leaves, settle, results, Tryd.results74, go_sem]
  exact g1
/-- A function value that tells whether two texts are the same, and leaves all as it lay. -/
def SameTo (w : World) (sv : Value) (p : List UInt8 → List UInt8 → Bool) : Prop := ∃ gf caps, sv = .func (.func gf) #[] caps ∧ (∀ args W, (callFunc gf args).run Tryd.prog W = .ok (.enter gf args) W) ∧
  ∀ (a b : List UInt8) (W : World), Frm (fun _ => False) w W → a.length ≤ 200 → b.length ≤ 200 → Calls Tryd.prog gf (#[.string (bs a), .string (bs b)] ++ caps) W fun e w' => e = .returned (.bool (p a b)) ∧ Frm (fun _ => False) W w'
theorem SameTo.keep {w w' : World} {sv : Value} {p : List UInt8 → List UInt8 → Bool} (h : SameTo w sv p) (g : Frm (fun _ => False) w w') : SameTo w' sv p := by
  obtain ⟨gf, caps, e, h1, h2⟩ := h
  exact ⟨gf, caps, e, h1, fun a b W gW => h2 a b W (g.trans gW)⟩
theorem gr11_any (S G B : Nat) (a b : List UInt8) (u r n sv : Value) (p : List UInt8 → List UInt8 → Bool) (w : World) (hS : Blk w S 76 #[sv]) (hG : Blk w G 41 #[.string (bs a), u]) (hB : Blk w B 63 #[r, n, .string (bs b)])
    (hp : SameTo w sv p) (ha : a.length ≤ 200) (hb : b.length ≤ 200) :
    Calls Tryd.prog 75 #[.pointer (some ⟨S, 0, none⟩), .pointer (some ⟨G, 0, none⟩), .pointer (some ⟨B, 0, none⟩)] w fun e w' => e = .returned (.bool (p a b)) ∧ Frm (fun _ => False) w w' := by
  obtain ⟨gf, caps, rfl, hen, hc⟩ := hp
  have HC := Lib.hid hc
  have c0 := hS.cell 0 rfl
  have c1 := hG.cell 0 rfl
  have c2 := hB.cell 2 rfl
  clear hc
  go_enter Tryd.func75, Tryd.ntmps75
  go_wp2_with fail
  refine (HC.out a b w (Frm.refl _ w) ha hb).mono ?_
  rintro e w1 ⟨rfl, g1⟩
  go_wp2_with fail
  go_ret
  exact ⟨rfl, g1⟩
theorem gr1_any (S B : Nat) (a b : List UInt8) (u r n sv : Value) (p : List UInt8 → List UInt8 → Bool) (w : World) (hS : Blk w S 76 #[sv]) (hB : Blk w B 63 #[r, n, .string (bs b)])
    (hp : SameTo w sv p) (ha : a.length ≤ 200) (hb : b.length ≤ 200) :
    Calls Tryd.prog 73 #[.agg #[.string (bs a), u], .pointer (some ⟨S, 0, none⟩), .pointer (some ⟨B, 0, none⟩)] w fun e w' => e = .returned (.bool (p a b)) ∧ Frm (fun _ => False) w w' := by
  have g0 : Frm (fun _ => False) w (w.alloc (.cells #[.string (bs a), u] 41)) := (Frm.refl _ w).alloc _
  have bG := Blk.alloc w 41 #[.string (bs a), u]
  have hmf : ∀ (fn : Fn) (first cap : Array Value) (w : World), (Instr.makeFunc fn first cap).run Tryd.prog w = .ok (.func fn first cap) w := fun _ _ _ _ => rfl
  have HH := Lib.hid (holds_any 75 #[.pointer (some ⟨S, 0, none⟩), .pointer (some ⟨w.heap.size, 0, none⟩), .pointer (some ⟨B, 0, none⟩)] (p a b) _ (enters_of Tryd.func75 (by kernel_rfl) rfl)
    (gr11_any S w.heap.size B a b u r n sv p _ (hS.keep g0 (fun h => h)) bG (hB.keep g0 (fun h => h)) (hp.keep g0) ha hb))
  clear hp
  go_enter Tryd.func73, Tryd.ntmps73
  go_wp2_with fail
  refine HH.out.mono ?_
  rintro e w1 ⟨rfl, g1⟩
  go_wp2_with fail
  go_ret
  exact ⟨rfl, g0.trans g1⟩
end Go.Proofs.YtiokabhidjafeaaDoor

