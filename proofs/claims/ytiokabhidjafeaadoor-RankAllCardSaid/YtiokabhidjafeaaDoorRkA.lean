/- A region in a round of a range over a function, walked by the plain words: by what is said of each operation. Of no program. No condition. -/
import Derived.Test.YtiokabhidjafeaaDoorLate
import Derived.Test.YtiokabhidjafeaaDoorRound
import Derived.Test.YtiokabhidjafeaaDoorSibD
import Derived.Defers
import Derived.Recover
section
namespace Go.Proofs.YtiokabhidjafeaaDoor
open Go.RowKit

section
variable {n : Nat} {P : Program} {ops : Array Oper} {Q : Exit → Act → World → Prop}
theorem upon_wide {o : Oper} {a : Act} {next : Act → World → Prop} {r : Result Next} (h : o.upon P a next Q r) : o.uponIn Fence.wide n P a next Q r := by
  cases r with
  | ok x w' =>
    cases x <;> simp only [Oper.upon, Oper.uponIn] at h ⊢
    all_goals first
      | exact h
      | exact h.elim
      | exact ⟨fun hd => by simp [Fence.wide] at hd, callsIn_wide.2 h⟩
      | exact ⟨fun hd => by simp [Fence.wide] at hd, fun c cs _ => let ⟨v, w', q, s⟩ := h c cs; ⟨v, w', q, stepsIn_wide.2 s⟩⟩
  | halt x w' => cases x <;> exact h
theorem wpOp_wide (hq : ¬ LetsOut Q) {i : Nat} {a : Act} {w : World} {K : Act → World → Prop} (h : wpOp P ops Q i K a w) : wpOpIn Fence.wide n P ops Q i K a w := by
  unfold wpOpIn wpOp at *
  split
  · simpa [*] using h
  · rename_i o ho
    simp only [ho] at h
    split
    · rename_i hw
      simp only [hw, if_true] at h
      rcases h with h | h
      · exact ⟨fun _ _ => trivial, upon_wide h⟩
      · exact absurd h.2 hq
    · rename_i hw
      simp only [hw] at h
      exact ⟨fun _ _ => trivial, h⟩
theorem wpAny_wide (hq : ¬ LetsOut Q) {md : Region.Mode} : ∀ (fuel : Nat) (listed : Array Bool) (a : Act) (w : World), wpAny P md ops Q fuel listed a w → wpAnyIn Fence.wide n P md ops Q fuel listed a w := by
  intro fuel
  induction fuel with
  | zero => intro listed a w h; exact h
  | succ fuel ih =>
    intro listed a w h
    exact ⟨h.1, fun i hi => wpOpIn_mono (fun a w => ih _ a w) (wpOp_wide hq (h.2 i hi))⟩
/-- THE RULES: in a round a region is walked as in a function. -/
theorem wpIn_region_plain {l id : Nat} {a : Act} {w : World} (hm : P.follows .mixedOrders = true) (hd : ops.all noDefer = true) (hq : ¬ LetsOut Q) (h : wpAny P .any ops Q ops.size (Array.replicate ops.size false) a w.drew) : (Code.region id ops true).wpIn (Fence.wide.inRound l) n P Q a w :=
  wpIn_region_round rfl hm hd (wpAny_wide hq _ _ _ _ h)
theorem wpIn_region_late {l id : Nat} {a : Act} {w : World} (r m : Nat) (Fl : List Nat) (Ds : List (List Nat)) (ms : List Nat) (Rs : List ((Nat → Value) → World → Prop)) {os' os ts : List Oper} (hq : ¬ LetsOut Q) (hnd : ops.all noDefer = true) (hm : P.follows .mixedOrders = true) (hos' : ops = os'.toArray) (hsp : splitN r os' = some (os, ts)) (hsz : ops.size = r + m)
    (hn : Region.noSelect ops = true) (hb : canonB .any ops = true) (hd : distB ops = true) (hms : msB .any ops ms = true) (hDl : Ds.length = r) (hDs : chkD ops.size ms 0 Ds = true) (hL : chkF ops.size r Fl ms = true) (hFw : chkFw .any ops Fl = true) (hC : chkC .any ops r m = true)
    (hob : ∀ val, RelO P ops ms Rs w.drew val 0 (os.zip Ds) a)
    (hend : ∀ val W, Frm (fun _ => False) w.drew W → FactsD ms Rs val W (List.range r) → wpTail P ops (QN Q) r m (aO val a os 0) W) : (Code.region id ops true).wpIn (Fence.wide.inRound l) n P Q a w :=
  wpIn_region_plain hm hnd hq (any_late r m Fl Ds ms Rs hos' hsp hsz hn hb hd hms hDl hDs hL hFw hC hob hend)
/-- A condition, but nothing at a panic. -/
def calmR (Q : Exit → Act → World → Prop) : Exit → Act → World → Prop
  | .panic _, _, _ => False
  | e, a, w => Q e a w
theorem calmR_le {Q : Exit → Act → World → Prop} (e : Exit) (a : Act) (w : World) (h : calmR Q e a w) : Q e a w := by
  cases e <;> first | exact h | exact (h : False).elim
theorem calmR_ret {Q : Exit → Act → World → Prop} {a : Act} {w : World} (h : Q .ret a w) : calmR Q .ret a w := h
theorem Row.isCellsR {w : World} {size n : Nat} {v : Value} {xs : List Value} (h : Row w size v n xs) : ∀ k o, v.ownBlock = some k → w.heap[k]? = some o → o.isCells = true := by
  intro k o hk ho
  obtain ⟨o', ho', hc⟩ := h.isC k hk
  rw [ho] at ho'
  cases ho'
  exact hc
end
end Go.Proofs.YtiokabhidjafeaaDoor
end
section
namespace Go.Proofs.YtiokabhidjafeaaDoor
open Go.RowKit

theorem holds1_idle (w : World) : CallsD Tryd.prog 98 #[] .returning w fun e u' w' => e = .returned (.tuple #[]) ∧ u' = .returning ∧ w' = w := by
  refine callsD_of_wpS Tryd.func98 rfl fun c₀ cs hu => ?_
  apply wpS_region
  simp [wpOpsS, go_sem, recoverD, hu, Tryd.ntmps98, bodyPostS, results, Tryd.results98]
  cases c₀
  simp only at hu
  subst hu
  rfl
theorem holds_any (gf : FuncId) (caps : Array Value) (q : Bool) (w : World) (hen : ∀ args W, (callFunc gf args).run Tryd.prog W = .ok (.enter gf args) W)
    (hc : Calls Tryd.prog gf caps w fun e w' => e = .returned (.bool q) ∧ Frm (fun _ => False) w w') :
    Calls Tryd.prog 74 #[.func (.func gf) #[] caps] w fun e w' => e = .returned (.bool q) ∧ Frm (fun _ => False) w w' := by
  have hmf : ∀ (fn : Fn) (first cap : Array Value) (w : World), (Instr.makeFunc fn first cap).run Tryd.prog w = .ok (.func fn first cap) w := fun _ _ _ _ => rfl
  have HC := Lib.hid hc
  clear hc
  go_enter_defers Tryd.func74, Tryd.ntmps74
  go_wp2_with fail
  refine HC.out.mono ?_
  rintro e w1 ⟨rfl, g1⟩
  go_wp2_with fail
  refine leaves_cons (f := 98) (args := #[]) (by simp) (by simp [go_sem]) ?_
  refine (holds1_idle _).mono ?_
  rintro e u' w'' ⟨rfl, rfl, rfl⟩
  simp [Leaves, settle, results, Tryd.results74, go_sem]
  exact g1
/-- A function value that tells whether two texts are the same, and leaves all as it lay. -/
def SameTo (w : World) (sv : Value) (p : List UInt8 → List UInt8 → Bool) : Prop := ∃ gf caps, sv = .func (.func gf) #[] caps ∧ (∀ args W, (callFunc gf args).run Tryd.prog W = .ok (.enter gf args) W) ∧
  ∀ (a b : List UInt8) (W : World), Frm (fun _ => False) w W → a.length ≤ 200 → b.length ≤ 200 → Calls Tryd.prog gf (#[.string (bs a), .string (bs b)] ++ caps) W fun e w' => e = .returned (.bool (p a b)) ∧ Frm (fun _ => False) W w'
theorem SameTo.keep {w w' : World} {sv : Value} {p : List UInt8 → List UInt8 → Bool} (h : SameTo w sv p) (g : Frm (fun _ => False) w w') : SameTo w' sv p := by
  obtain ⟨gf, caps, e, h1, h2⟩ := h
  exact ⟨gf, caps, e, h1, fun a b W gW => h2 a b W (g.trans gW)⟩
theorem gr11_any (S G B : Nat) (a b : List UInt8) (u r n sv : Value) (p : List UInt8 → List UInt8 → Bool) (w : World) (hS : Blk w S 76 #[sv]) (hG : Blk w G 41 #[.string (bs a), u]) (hB : Blk w B 63 #[r, n, .string (bs b)])
    (hp : SameTo w sv p) (ha : a.length ≤ 200) (hb : b.length ≤ 200) :
    Calls Tryd.prog 75 #[.pointer (some ⟨S, 0, none⟩), .pointer (some ⟨G, 0, none⟩), .pointer (some ⟨B, 0, none⟩)] w fun e w' => e = .returned (.bool (p a b)) ∧ Frm (fun _ => False) w w' := by
  obtain ⟨gf, caps, rfl, hen, hc⟩ := hp
  have HC := Lib.hid hc
  have c0 := hS.cell 0 rfl
  have c1 := hG.cell 0 rfl
  have c2 := hB.cell 2 rfl
  clear hc
  go_enter Tryd.func75, Tryd.ntmps75
  go_wp2_with fail
  refine (HC.out a b w (Frm.refl _ w) ha hb).mono ?_
  rintro e w1 ⟨rfl, g1⟩
  go_wp2_with fail
  go_ret
  exact ⟨rfl, g1⟩
theorem gr1_any (S B : Nat) (a b : List UInt8) (u r n sv : Value) (p : List UInt8 → List UInt8 → Bool) (w : World) (hS : Blk w S 76 #[sv]) (hB : Blk w B 63 #[r, n, .string (bs b)])
    (hp : SameTo w sv p) (ha : a.length ≤ 200) (hb : b.length ≤ 200) :
    Calls Tryd.prog 73 #[.agg #[.string (bs a), u], .pointer (some ⟨S, 0, none⟩), .pointer (some ⟨B, 0, none⟩)] w fun e w' => e = .returned (.bool (p a b)) ∧ Frm (fun _ => False) w w' := by
  have g0 : Frm (fun _ => False) w (w.alloc (.cells #[.string (bs a), u] 41)) := (Frm.refl _ w).alloc _
  have bG := Blk.alloc w 41 #[.string (bs a), u]
  have hmf : ∀ (fn : Fn) (first cap : Array Value) (w : World), (Instr.makeFunc fn first cap).run Tryd.prog w = .ok (.func fn first cap) w := fun _ _ _ _ => rfl
  have HH := Lib.hid (holds_any 75 #[.pointer (some ⟨S, 0, none⟩), .pointer (some ⟨w.heap.size, 0, none⟩), .pointer (some ⟨B, 0, none⟩)] (p a b) _ (enters_of Tryd.func75 (by kernel_rfl) rfl)
    (gr11_any S w.heap.size B a b u r n sv p _ (hS.keep g0 (fun h => h)) bG (hB.keep g0 (fun h => h)) (hp.keep g0) ha hb))
  clear hp
  go_enter Tryd.func73, Tryd.ntmps73
  go_wp2_with fail
  refine HH.out.mono ?_
  rintro e w1 ⟨rfl, g1⟩
  go_wp2_with fail
  go_ret
  exact ⟨rfl, g0.trans g1⟩
end Go.Proofs.YtiokabhidjafeaaDoor
end
