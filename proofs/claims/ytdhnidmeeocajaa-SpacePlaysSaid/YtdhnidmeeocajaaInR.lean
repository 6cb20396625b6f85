/- A region in a round of a range over a function, walked by the plain words: by what is said of each operation. Of no program. No condition. -/
import Derived.Test.YtdhnidmeeocajaaRelT
import Derived.Test.YtdhnidmeeocajaaRound
namespace Go.Proofs.Ytdhnidmeeocajaa
open Go.RowKit

section
variable {n : Nat} {P : Program} {ops : Array Oper} {Q : Exit → Act → World → Prop}
theorem upon_wide {o : Oper} {a : Act} {next : Act → World → Prop} {r : Result Next} (h : o.upon P a next Q r) : o.uponIn Fence.wide n P a next Q r := by
  cases r with
  | ok x w' =>
    cases x <;> simp only [Oper.upon, Oper.uponIn] at h ⊢
    all_goals first
      | exact h
      | exact h.elim
      | exact ⟨fun hd => by simp [Fence.wide] at hd, callsIn_wide.2 h⟩
      | exact ⟨fun hd => by simp [Fence.wide] at hd, fun c cs _ => let ⟨v, w', q, s⟩ := h c cs; ⟨v, w', q, stepsIn_wide.2 s⟩⟩
  | halt x w' => cases x <;> exact h
theorem wpOp_wide (hq : ¬ LetsOut Q) {i : Nat} {a : Act} {w : World} {K : Act → World → Prop} (h : wpOp P ops Q i K a w) : wpOpIn Fence.wide n P ops Q i K a w := by
  unfold wpOpIn wpOp at *
  split
  · simpa [*] using h
  · rename_i o ho
    simp only [ho] at h
    split
    · rename_i hw
      simp only [hw, if_true] at h
      rcases h with h | h
      · exact ⟨fun _ _ => trivial, upon_wide h⟩
      · exact absurd h.2 hq
    · rename_i hw
      simp only [hw] at h
      exact ⟨fun _ _ => trivial, h⟩
theorem wpAny_wide (hq : ¬ LetsOut Q) {md : Region.Mode} : ∀ (fuel : Nat) (listed : Array Bool) (a : Act) (w : World), wpAny P md ops Q fuel listed a w → wpAnyIn Fence.wide n P md ops Q fuel listed a w := by
  intro fuel
  induction fuel with
  | zero => intro listed a w h; exact h
  | succ fuel ih =>
    intro listed a w h
    exact ⟨h.1, fun i hi => wpOpIn_mono (fun a w => ih _ a w) (wpOp_wide hq (h.2 i hi))⟩
theorem wpOps_wide (l : Nat) (hq : ¬ LetsOut Q) (hd : ops.all noDefer = true) : ∀ (is : List Nat) (a : Act) (w : World), wpOps P ops Q is a w → wpOpsIn (Fence.wide.inRound l) n P ops Q is a w := by
  intro is
  induction is with
  | nil => intro a w h; exact h
  | cons i is ih =>
    intro a w h
    rw [wpOps_cons] at h
    rw [wpOpsIn_cons]
    exact wpOpIn_round l rfl hd (wpOpIn_mono (fun a w => ih a w) (wpOp_wide hq h))
/-- THE RULES: in a round a region is walked as in a function. -/
theorem wpIn_region_plain {l id : Nat} {a : Act} {w : World} (hm : P.follows .mixedOrders = true) (hd : ops.all noDefer = true) (hq : ¬ LetsOut Q) (h : wpAny P .any ops Q ops.size (Array.replicate ops.size false) a w.drew) : (Code.region id ops true).wpIn (Fence.wide.inRound l) n P Q a w :=
  wpIn_region_round rfl hm hd (wpAny_wide hq _ _ _ _ h)
theorem wpIn_region_late {l id : Nat} {a : Act} {w : World} (r m : Nat) (Fl : List Nat) (Ds : List (List Nat)) (ms : List Nat) (Rs : List ((Nat → Value) → World → Prop)) {os' os ts : List Oper} (hq : ¬ LetsOut Q) (hnd : ops.all noDefer = true) (hm : P.follows .mixedOrders = true) (hos' : ops = os'.toArray) (hsp : splitN r os' = some (os, ts)) (hsz : ops.size = r + m)
    (hn : Region.noSelect ops = true) (hb : canonB .any ops = true) (hd : distB ops = true) (hms : msB .any ops ms = true) (hDl : Ds.length = r) (hDs : chkD ops.size ms 0 Ds = true) (hL : chkF ops.size r Fl ms = true) (hFw : chkFw .any ops Fl = true) (hC : chkC .any ops r m = true)
    (hob : ∀ val, RelO P ops ms Rs w.drew val 0 (os.zip Ds) a)
    (hend : ∀ val W, Frm (fun _ => False) w.drew W → FactsD ms Rs val W (List.range r) → wpTail P ops (QN Q) r m (aO val a os 0) W) : (Code.region id ops true).wpIn (Fence.wide.inRound l) n P Q a w :=
  wpIn_region_plain hm hnd hq (any_late r m Fl Ds ms Rs hos' hsp hsz hn hb hd hms hDl hDs hL hFw hC hob hend)
theorem wpIn_region_textR {l id : Nat} {a : Act} {w : World} (r m : Nat) (Ds : List (List Nat)) (ms : List Nat) (Rs : List ((Nat → Value) → World → Prop)) {os' os ts : List Oper} (hq : ¬ LetsOut Q) (hnd : ops.all noDefer = true) (hos' : ops = os'.toArray) (hsp : splitN r os' = some (os, ts)) (hsz : ops.size = r + m)
    (hDl : Ds.length = r) (hDs : chkD ops.size ms 0 Ds = true) (hM : chkM ops.size ms = true)
    (hob : ∀ val, RelO P ops ms Rs w val 0 (os.zip Ds) a)
    (hend : ∀ val W, Frm (fun _ => False) w W → FactsD ms Rs val W (List.range r) → wpTail P ops Q r m (aO val a os 0) W) : (Code.region id ops false).wpIn (Fence.wide.inRound l) n P Q a w :=
  wpIn_region (wpOps_wide l hq hnd _ _ _ (ops_textR r m Ds ms Rs hos' hsp hsz hDl hDs hM hob hend))
/-- A condition, but nothing at a panic. -/
def calmR (Q : Exit → Act → World → Prop) : Exit → Act → World → Prop
  | .panic _, _, _ => False
  | e, a, w => Q e a w
theorem calmR_le {Q : Exit → Act → World → Prop} (e : Exit) (a : Act) (w : World) (h : calmR Q e a w) : Q e a w := by
  cases e <;> first | exact h | exact (h : False).elim
theorem calmR_ret {Q : Exit → Act → World → Prop} {a : Act} {w : World} (h : Q .ret a w) : calmR Q .ret a w := h
theorem Row.isCellsR {w : World} {size n : Nat} {v : Value} {xs : List Value} (h : Row w size v n xs) : ∀ k o, v.ownBlock = some k → w.heap[k]? = some o → o.isCells = true := by
  intro k o hk ho
  obtain ⟨o', ho', hc⟩ := h.isC k hk
  rw [ho] at ho'
  cases ho'
  exact hc
end
end Go.Proofs.Ytdhnidmeeocajaa
