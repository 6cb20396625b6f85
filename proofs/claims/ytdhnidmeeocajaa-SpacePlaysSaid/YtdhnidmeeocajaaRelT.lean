/- As Rel, for a region that goes in the text's order. Of no program. No condition. -/
import Derived.Test.YtdhnidmeeocajaaLate
namespace Go.Proofs.Ytdhnidmeeocajaa
open Go.RowKit

section
variable {P : Program} {ops : Array Oper} {Q : Exit → Act → World → Prop}
theorem tail_ops : ∀ (m r : Nat) (a : Act) (w : World), wpTail P ops Q r m a w → wpOps P ops Q (List.range' r m) a w := by
  intro m
  induction m with
  | zero => intro r a w h; exact h
  | succ m ih =>
    intro r a w h
    rw [List.range'_succ, wpOps_cons]
    exact wpOp_mono (fun a w h => ih _ a w h) h
def chkM (n : Nat) (ms : List Nat) : Bool := (List.range n).all fun i => (List.range n).all fun p => !(mk ms i).testBit p || decide (p ≤ i)

theorem rel_text {ms : List Nat} {Rs : List ((Nat → Value) → World → Prop)} {w0 : World} {a0 : Act} {r : Nat} (os : List (Oper × List Nat)) (hr : os.length = r) (hrn : r ≤ ops.size) (hos : ∀ t (h : t < os.length), ops[t]? = some os[t].1)
    (hD : ∀ t (h : t < os.length), ∀ d ∈ os[t].2, (mk ms t).testBit d = true ∧ d ≠ t ∧ d < ops.size) (hM : chkM ops.size ms = true)
    (hob : ∀ val, RelO P ops ms Rs w0 val 0 os a0)
    (hend : ∀ val W, Frm (fun _ => False) w0 W → (∀ i, i < r → Fact ms Rs i val W) → wpTail P ops Q r (ops.size - r) (aL ops val a0 (List.range r)) W) :
    ∀ (n t : Nat) (val : Nat → Value) (W : World), t + n = r → Frm (fun _ => False) w0 W → (∀ i, i < t → Fact ms Rs i val W) → wpOps P ops Q (List.range' t (ops.size - t)) (aL ops val a0 (List.range t)) W := by
  have hM' : ∀ i p, i < ops.size → p < ops.size → (mk ms i).testBit p = true → p ≤ i := fun i p hi hp ht => by
    simp only [chkM, List.all_eq_true, List.mem_range] at hM
    have := hM i hi p hp
    rw [ht] at this
    simpa using this
  intro n
  induction n with
  | zero =>
    intro t val W ht hW hF
    obtain rfl : t = r := by omega
    exact tail_ops _ _ _ _ (hend val W hW hF)
  | succ n ih =>
    intro t val W ht hW hF
    have hts : t < ops.size := by omega
    rw [show ops.size - t = (ops.size - (t + 1)) + 1 by omega, List.range'_succ, wpOps_cons]
    have hok := relO_at os 0 a0 (hob val) (fun t h => by rw [Nat.zero_add]; exact hos t h) t (by omega) W hW (factsD_of _ fun d hd => by
      obtain ⟨h1, h2, h3⟩ := hD t (by omega) d hd
      have := hM' t d hts h3 h1
      exact hF d (by omega))
    rw [Nat.zero_add, ← List.range_eq_range'] at hok
    have ho := hos t (by omega)
    refine hok.wpOp ho fun u W' hK => ?_
    obtain ⟨g, hR⟩ := hK
    have e0 : dstOf ops t = (os[t]'(by omega)).1.dst := by simp [dstOf, ho]
    have ea : (aL ops val a0 (List.range t)).put (os[t]'(by omega)).1.dst u = aL ops (updV val t u) a0 (List.range (t + 1)) := by
      rw [List.range_succ, aL_append]
      have e1 : aL ops (updV val t u) a0 (List.range t) = aL ops val a0 (List.range t) := aL_congr _ a0 fun i hi => by
        have := List.mem_range.1 hi
        unfold updV; rw [if_neg (by omega)]
      rw [e1]
      show _ = (aL ops val a0 (List.range t)).put (dstOf ops t) (updV val t u t)
      rw [e0]
      simp [updV]
    rw [ea]
    refine ih (t + 1) _ W' (by omega) (hW.trans g) fun i hi => ?_
    rcases Nat.lt_or_ge i t with h | h
    · intro W'' g'
      have h1 := hF i h W'' (g.trans g')
      have hbit : (mk ms i).testBit t = false := by
        cases hq : (mk ms i).testBit t with
        | false => rfl
        | true => have := hM' i t (by omega) hts hq; omega
      rw [rs_upd val u hbit]
      exact h1
    · obtain rfl : i = t := by omega
      exact hR

theorem ops_textR {a : Act} {w : World} (r m : Nat) (Ds : List (List Nat)) (ms : List Nat) (Rs : List ((Nat → Value) → World → Prop)) {os' os ts : List Oper} (hos' : ops = os'.toArray) (hsp : splitN r os' = some (os, ts)) (hsz : ops.size = r + m)
    (hDl : Ds.length = r) (hDs : chkD ops.size ms 0 Ds = true) (hM : chkM ops.size ms = true)
    (hob : ∀ val, RelO P ops ms Rs w val 0 (os.zip Ds) a)
    (hend : ∀ val W, Frm (fun _ => False) w W → FactsD ms Rs val W (List.range r) → wpTail P ops Q r m (aO val a os 0) W) : wpOps P ops Q (List.range ops.size) a w := by
  obtain ⟨h1, h2⟩ := splitN_eq _ _ _ _ hsp
  have hopt : ∀ t (h : t < os.length), ops[t]? = some os[t] := fun t h => by
    subst hos'
    simp [h1, List.getElem?_append, h]
  have hlen : (os.zip Ds).length = r := by simp [h2, hDl]
  have hall := rel_text (Q := Q) (ms := ms) (Rs := Rs) (w0 := w) (a0 := a) (r := r) (os.zip Ds) hlen (by omega) (fun t h => by
      simp only [List.getElem_zip]
      exact hopt t (by omega))
    (fun t h d hd => by
      simp only [List.getElem_zip] at hd
      have := chkD_at Ds 0 hDs t (by omega) d hd
      rwa [Nat.zero_add] at this) hM hob
    (fun val W hW hF => by
      have e1 : List.range r = List.range' 0 os.length := by rw [h2, List.range_eq_range']
      rw [e1, aL_aO val os 0 a (fun t h => by rw [Nat.zero_add]; exact hopt t h)]
      have e2 : ops.size - r = m := by omega
      rw [e2]
      exact hend val W hW (factsD_of _ fun d hd => hF d (List.mem_range.1 hd)))
    r 0 (fun _ => undef) w (by omega) (Frm.refl _ _) (fun i hi => by omega)
  rw [List.range_eq_range']
  exact hall
theorem wp_region_textR {id : Nat} {a : Act} {w : World} (r m : Nat) (Ds : List (List Nat)) (ms : List Nat) (Rs : List ((Nat → Value) → World → Prop)) {os' os ts : List Oper} (hos' : ops = os'.toArray) (hsp : splitN r os' = some (os, ts)) (hsz : ops.size = r + m)
    (hDl : Ds.length = r) (hDs : chkD ops.size ms 0 Ds = true) (hM : chkM ops.size ms = true)
    (hob : ∀ val, RelO P ops ms Rs w val 0 (os.zip Ds) a)
    (hend : ∀ val W, Frm (fun _ => False) w W → FactsD ms Rs val W (List.range r) → wpTail P ops Q r m (aO val a os 0) W) : (Code.region id ops false).wp P Q a w :=
  wp_region (ops_textR r m Ds ms Rs hos' hsp hsz hDl hDs hM hob hend)
end
end Go.Proofs.Ytdhnidmeeocajaa
