/- A region that asks for its order, whose first r operations only let the heap grow, and whose others wait for all of these: whatever the order, each operation's value and what is new meet what is said of them. Of no program. No condition. -/
import Derived.Test.YtjodkgbpbibfbaaCanonT
import Derived.Test.YtjodkgbpbibfbaaCanonQ
import Derived.Test.YtjodkgbpbibfbaaFrm
namespace Go.Proofs.Ytjodkgbpbibfbaa
open Go.RowKit

section
variable {P : Program} {ops : Array Oper} {Q : Exit → Act → World → Prop} {md : Region.Mode}

def dstOf (ops : Array Oper) (i : Nat) : Option Tmp := (ops[i]?).bind (·.dst)
/-- The values put, one behind the other. -/
def aL (ops : Array Oper) (val : Nat → Value) : Act → List Nat → Act
  | a, [] => a
  | a, i :: is => aL ops val (a.put (dstOf ops i) (val i)) is
theorem aL_append (val : Nat → Value) : ∀ (l m : List Nat) (a : Act), aL ops val a (l ++ m) = aL ops val (aL ops val a l) m := by
  intro l
  induction l with
  | nil => intro m a; rfl
  | cons i l ih => intro m a; exact ih m _
theorem aL_congr {val val' : Nat → Value} : ∀ (l : List Nat) (a : Act), (∀ i ∈ l, val i = val' i) → aL ops val a l = aL ops val' a l := by
  intro l
  induction l with
  | nil => intro a _; rfl
  | cons i l ih =>
    intro a h
    show aL ops val (a.put _ (val i)) l = aL ops val' (a.put _ (val' i)) l
    rw [h i List.mem_cons_self]
    exact ih _ fun j hj => h j (List.mem_cons_of_mem _ hj)
/-- Do no two operations write the same place? -/
def distB (ops : Array Oper) : Bool := (List.range ops.size).all fun j => (List.range j).all fun p => match dstOf ops p, dstOf ops j with
  | some d, some e => d != e
  | _, _ => true
theorem dist_lt (h : distB ops = true) {p j : Nat} (hpj : p < j) (d : Tmp) (hd : dstOf ops p = some d) : dstOf ops j ≠ some d := by
  intro he
  have hj : j < ops.size := by
    rcases Nat.lt_or_ge j ops.size with h' | h'
    · exact h'
    · simp [dstOf, Array.getElem?_eq_none h'] at he
  simp only [distB, List.all_eq_true, List.mem_range] at h
  have := h j hj p hpj
  rw [hd, he] at this
  simp at this
theorem dist_ne (h : distB ops = true) {p j : Nat} (hpj : p ≠ j) (d : Tmp) (hd : dstOf ops p = some d) : dstOf ops j ≠ some d := by
  rcases Nat.lt_or_ge p j with h1 | h1
  · exact dist_lt h h1 d hd
  · intro he
    exact dist_lt h (show j < p by omega) d he hd
theorem aL_perm (hd : distB ops = true) (val : Nat → Value) {l m : List Nat} (h : l.Perm m) : ∀ a, aL ops val a l = aL ops val a m := by
  induction h with
  | nil => intro a; rfl
  | cons x _ ih => intro a; exact ih _
  | swap x y l =>
    intro a
    show aL ops val ((a.put _ (val y)).put _ (val x)) l = aL ops val ((a.put _ (val x)).put _ (val y)) l
    by_cases e : y = x
    · subst e; rfl
    · rw [Act.put_comm a (val y) (val x) (fun d h => dist_ne hd e d h)]
  | trans _ _ ih1 ih2 => intro a; exact (ih1 a).trans (ih2 a)

/-- Operation j does not look at what operation k writes. -/
def blind (ops : Array Oper) (j k : Nat) : Prop := ∀ o, ops[j]? = some o → ∀ d, dstOf ops k = some d → d ∉ o.looksAt ops
theorem blind_exec {j : Nat} {o : Oper} (ho : ops[j]? = some o) (hs : ∀ cs b, o.op ≠ .select cs b) (val : Nat → Value) : ∀ (l : List Nat) (a : Act), (∀ k ∈ l, blind ops j k) →
    execOp (aL ops val a l).eval o = execOp a.eval o ∧ Region.wanted o (yielded ops (aL ops val a l).tmps) = Region.wanted o (yielded ops a.tmps) := by
  intro l
  induction l with
  | nil => intro a _; exact ⟨rfl, rfl⟩
  | cons k l ih =>
    intro a h
    have hk := h k List.mem_cons_self o ho
    obtain ⟨h1, h2⟩ := ih (a.put (dstOf ops k) (val k)) fun q hq => h q (List.mem_cons_of_mem _ hq)
    exact ⟨h1.trans (execOp_put o hs a _ _ hk), h2.trans (wanted_put o a _ _ hk)⟩
theorem blind_of (hb : canonB md ops = true) {j k : Nat} (hj : j < ops.size) (hk : k < ops.size) (hjk : j ≠ k) (hw : waits md ops j k = false) (hw2 : waits md ops k j = false) : blind ops j k := by
  intro o ho d hd
  simp only [canonB, List.all_eq_true, Bool.and_eq_true, List.mem_range, Bool.or_eq_true] at hb
  have hok : ops[k]? = some ops[k] := Array.getElem?_eq_getElem hk
  simp only [dstOf, hok, Option.bind_some] at hd
  rcases Nat.lt_or_ge k j with h | h
  · rcases (hb j hj).2 k h with h1 | h1
    · rw [hw] at h1; cases h1
    · simp only [apartB, hok, ho] at h1
      exact (Oper.apart_spec h1).1 d hd
  · rcases (hb k hk).2 j (by omega) with h1 | h1
    · rw [hw2] at h1; cases h1
    · simp only [apartB, hok, ho] at h1
      exact (Oper.apart_spec h1).2.2 d hd
theorem canon_lt (hb : canonB md ops = true) {j k : Nat} (h : waits md ops j k = true) : k < j := by
  simp only [canonB, List.all_eq_true, Bool.and_eq_true, List.mem_range] at hb
  have hj : j < ops.size := by
    rcases Nat.lt_or_ge j ops.size with h' | h'
    · exact h'
    · simp [waits, Array.getElem?_eq_none h'] at h
  have ho : ops[j]? = some ops[j] := Array.getElem?_eq_getElem hj
  obtain ⟨e, he, hbd, rfl⟩ := (waits_iff ho).1 h
  have h1 := (hb j hj).1
  simp only [ho, Option.map_some, Option.getD_some, Array.all_eq_true_iff_forall_mem, Bool.or_eq_true, decide_eq_true_eq] at h1
  rcases h1 e he with h2 | h2
  · rw [hbd] at h2; simp at h2
  · exact h2
/-- What operation j does, does not hang on what else has come up. -/
theorem same_act (hb : canonB md ops = true) (hd : distB ops = true) {j : Nat} {o : Oper} (ho : ops[j]? = some o) (hs : ∀ cs b, o.op ≠ .select cs b) (val : Nat → Value) (a : Act) (π : List Nat) (hn : π.Nodup) (hlt : ∀ k ∈ π, k < ops.size) (hj : j ∉ π)
    (hdep : ∀ k, waits md ops j k = true → k ∈ π) (hup : ∀ k ∈ π, waits md ops k j = false) :
    execOp (aL ops val a π).eval o = execOp (aL ops val a (List.range j)).eval o ∧ Region.wanted o (yielded ops (aL ops val a π).tmps) = Region.wanted o (yielded ops (aL ops val a (List.range j)).tmps) := by
  have hjs : j < ops.size := (Array.getElem?_eq_some_iff.1 ho).1
  have key : ∀ (l : List Nat), l.Nodup → (∀ k ∈ l, k < ops.size ∧ k ≠ j ∧ waits md ops k j = false) →
      execOp (aL ops val a l).eval o = execOp (aL ops val a (l.filter fun k => waits md ops j k)).eval o ∧ Region.wanted o (yielded ops (aL ops val a l).tmps) = Region.wanted o (yielded ops (aL ops val a (l.filter fun k => waits md ops j k)).tmps) := by
    intro l _ hl
    have hp : l.Perm ((l.filter fun k => waits md ops j k) ++ (l.filter fun k => !waits md ops j k)) := (List.filter_append_perm _ l).symm
    rw [aL_perm hd val hp a, aL_append]
    refine blind_exec ho hs val _ _ fun k hk => ?_
    obtain ⟨hk1, hk2⟩ := List.mem_filter.1 hk
    obtain ⟨h1, h2, h3⟩ := hl k hk1
    exact blind_of hb hjs h1 (Ne.symm h2) (by simpa using hk2) h3
  have h1 := key π hn fun k hk => ⟨hlt k hk, fun e => hj (e ▸ hk), hup k hk⟩
  have h2 := key (List.range j) List.nodup_range fun k hk => by
    have := List.mem_range.1 hk
    refine ⟨by omega, by omega, ?_⟩
    cases hw : waits md ops k j with
    | false => rfl
    | true => have := canon_lt hb hw; omega
  have hp : (π.filter fun k => waits md ops j k).Perm ((List.range j).filter fun k => waits md ops j k) := by
    refine (List.perm_ext_iff_of_nodup (hn.filter _) (List.nodup_range.filter _)).2 fun k => ?_
    simp only [List.mem_filter, List.mem_range]
    exact ⟨fun h => ⟨canon_lt hb h.2, h.2⟩, fun h => ⟨hdep k h.2, h.2⟩⟩
  rw [h1.1, h1.2, h2.1, h2.2, aL_perm hd val hp a]
  exact ⟨rfl, rfl⟩

/-- What an operation waits for, by way of others too, as bits: each bit of a mask is its own, or of a mask of one that it waits for. -/
def mk (ms : List Nat) (i : Nat) : Nat := ms.getD i 0
def msB (md : Region.Mode) (ops : Array Oper) (ms : List Nat) : Bool :=
  (List.range ops.size).all fun i => (List.range ops.size).all fun p => !(mk ms i).testBit p || p == i || ((ops[i]?).map fun o => o.after.any fun e => Region.binds md e && (mk ms e.on).testBit p).getD false
theorem ms_listed {ms : List Nat} (hb : canonB md ops = true) (hm : msB md ops ms = true) {listed : Array Bool} (hc : Closed md ops listed) :
    ∀ i, i < ops.size → (∀ k, waits md ops i k = true → listed.getD k false = true) → ∀ p, p < ops.size → (mk ms i).testBit p = true → p = i ∨ listed.getD p false = true := by
  intro i
  induction i using Nat.strongRecOn with
  | _ i ih =>
    intro hi hd p hp ht
    have ho : ops[i]? = some ops[i] := Array.getElem?_eq_getElem hi
    have hm' := hm
    simp only [msB, List.all_eq_true, List.mem_range] at hm'
    have h := hm' i hi p hp
    rw [ht, ho] at h
    simp only [Bool.not_true, Bool.false_or, Option.map_some, Option.getD_some, Bool.or_eq_true, beq_iff_eq, Array.any_eq_true, Bool.and_eq_true] at h
    rcases h with h | ⟨q, hq, hbd, htq⟩
    · exact .inl h
    · have hw : waits md ops i (ops[i].after[q]).on = true := (waits_iff ho).2 ⟨_, Array.getElem_mem hq, hbd, rfl⟩
      have hl := hd _ hw
      have hlt := canon_lt hb hw
      rcases ih _ hlt (by omega) (fun k hk => by
        have hdlt : (ops[i].after[q]).on < ops.size := by omega
        obtain ⟨e, he, hb2, rfl⟩ := (waits_iff (Array.getElem?_eq_getElem hdlt)).1 hk
        exact hc _ hl _ (Array.getElem?_eq_getElem hdlt) e he hb2) p hp htq with h1 | h1
      · rw [h1]; exact .inr hl
      · exact .inr h1

/-- The values that a mask shows. -/
def rs (m : Nat) (val : Nat → Value) : Nat → Value := fun k => cond (m.testBit k) (val k) undef
def updV (val : Nat → Value) (j : Nat) (u : Value) : Nat → Value := fun k => if k = j then u else val k
theorem rs_upd {m j : Nat} (val : Nat → Value) (u : Value) (h : m.testBit j = false) : rs m (updV val j u) = rs m val := by
  funext k
  unfold rs updV
  by_cases e : k = j
  · subst e; rw [h]; rfl
  · rw [if_neg e]
/-- What is said of operation i, and stays so. -/
def Fact (ms : List Nat) (Rs : List ((Nat → Value) → World → Prop)) (i : Nat) (val : Nat → Value) (W : World) : Prop :=
  ∀ W', Frm (fun _ => False) W W' → (Rs.getD i fun _ _ => True) (rs (mk ms i) val) W'
theorem Fact.grow {ms : List Nat} {Rs : List ((Nat → Value) → World → Prop)} {i : Nat} {val : Nat → Value} {W W' : World} (h : Fact ms Rs i val W) (g : Frm (fun _ => False) W W') : Fact ms Rs i val W' := fun W'' g' => h W'' (g.trans g')
def FactsD (ms : List Nat) (Rs : List ((Nat → Value) → World → Prop)) (val : Nat → Value) (W : World) : List Nat → Prop
  | [] => True
  | d :: ds => Fact ms Rs d val W ∧ FactsD ms Rs val W ds
theorem factsD_of {ms : List Nat} {Rs : List ((Nat → Value) → World → Prop)} {val : Nat → Value} {W : World} : ∀ D : List Nat, (∀ d ∈ D, Fact ms Rs d val W) → FactsD ms Rs val W D := by
  intro D
  induction D with
  | nil => intro _; trivial
  | cons d D ih => intro h; exact ⟨h d List.mem_cons_self, ih fun e he => h e (List.mem_cons_of_mem _ he)⟩

/-- An operation's run ends in a value of which K holds. -/
def StepK (P : Program) (K : Value → World → Prop) : Result Next → Prop
  | .ok (.value u) w' => K u w'
  | .ok .skip w' => K undef w'
  | .ok (.enter f args) w' => Calls P f args w' fun e w'' => ∃ u, e = .returned u ∧ K u w''
  | _ => False
def OpOK (P : Program) (ops : Array Oper) (o : Oper) (a : Act) (W : World) (K : Value → World → Prop) : Prop :=
  (Region.wanted o (yielded ops a.tmps) = true ∧ StepK P K ((execOp a.eval o).run P W)) ∨ (Region.wanted o (yielded ops a.tmps) = false ∧ K undef W)
theorem OpOK.wpOp {i : Nat} {o : Oper} {a : Act} {W : World} {K : Value → World → Prop} (hi : ops[i]? = some o) (h : OpOK P ops o a W K) {K' : Act → World → Prop} (hK : ∀ u W', K u W' → K' (a.put o.dst u) W') : wpOp P ops Q i K' a W := by
  unfold Go.wpOp
  simp only [hi]
  rcases h with ⟨hw, hv⟩ | ⟨hw, hk⟩
  · simp only [hw, if_true]
    refine .inl ?_
    unfold Oper.wp
    generalize (execOp a.eval o).run P W = r at *
    cases r with
    | ok n w' =>
      cases n <;> simp only [StepK] at hv
      case value u => exact hK _ _ hv
      case skip => exact hK _ _ hv
      case enter f args =>
        simp only [Oper.upon]
        refine Calls.mono hv fun e w'' he => ?_
        obtain ⟨u, rfl, h2⟩ := he
        exact hK _ _ h2
    | halt x w' => exact hv.elim
  · simp only [hw, Bool.false_eq_true, if_false]; exact hK _ _ hk

/-- What is to be shown of each operation, in the text's order. -/
def RelO (P : Program) (ops : Array Oper) (ms : List Nat) (Rs : List ((Nat → Value) → World → Prop)) (w0 : World) (val : Nat → Value) : Nat → List (Oper × List Nat) → Act → Prop
  | _, [], _ => True
  | k, (o, D) :: rest, a => (∀ W, Frm (fun _ => False) w0 W → FactsD ms Rs val W D → OpOK P ops o a W fun u W' => Frm (fun _ => False) W W' ∧ Fact ms Rs k (updV val k u) W') ∧ RelO P ops ms Rs w0 val (k + 1) rest (a.put o.dst (val k))
theorem relO_at {ms : List Nat} {Rs : List ((Nat → Value) → World → Prop)} {w0 : World} {val : Nat → Value} : ∀ (l : List (Oper × List Nat)) (k : Nat) (a : Act), RelO P ops ms Rs w0 val k l a → (∀ t (h : t < l.length), ops[k + t]? = some l[t].1) →
    ∀ t (h : t < l.length), ∀ W, Frm (fun _ => False) w0 W → FactsD ms Rs val W l[t].2 → OpOK P ops l[t].1 (aL ops val a (List.range' k t)) W fun u W' => Frm (fun _ => False) W W' ∧ Fact ms Rs (k + t) (updV val (k + t) u) W' := by
  intro l
  induction l with
  | nil => intro k a _ _ t h; cases h
  | cons x l ih =>
    obtain ⟨o, D⟩ := x
    intro k a h hop t ht W hW hF
    obtain ⟨h1, h2⟩ := h
    cases t with
    | zero => exact h1 W hW hF
    | succ t =>
      have := ih (k + 1) _ h2 (fun t' ht' => by
        have := hop (t' + 1) (by simp; omega)
        rwa [show k + (t' + 1) = k + 1 + t' by omega] at this) t (by simpa using ht) W hW hF
      have e0 : dstOf ops k = o.dst := by
        have := hop 0 (by simp)
        simp at this
        simp [dstOf, this]
      rw [List.range'_succ]
      show OpOK P ops _ (aL ops val (a.put (dstOf ops k) (val k)) _) W _
      rw [e0, show k + (t + 1) = k + 1 + t by omega]
      exact this

/-- All facts of the first ones. -/
def lst (n r : Nat) : Array Bool := ((List.range n).map fun i => decide (i < r)).toArray

theorem sub_len : ∀ (l m : List Nat), l.Nodup → (∀ x ∈ l, x ∈ m) → l.length ≤ m.length := by
  intro l
  induction l with
  | nil => intro m _ _; exact Nat.zero_le _
  | cons x l ih =>
    intro m hn hs
    obtain ⟨hx, hl⟩ := List.nodup_cons.1 hn
    have hxm := hs x List.mem_cons_self
    have h1 := ih (m.erase x) hl fun y hy => (List.mem_erase_of_ne (fun e => hx (by subst e; exact hy))).2 (hs y (List.mem_cons_of_mem _ hy))
    rw [List.length_erase_of_mem hxm] at h1
    have := List.length_pos_of_mem hxm
    simp only [List.length_cons]
    omega

theorem rel_any {ms : List Nat} {Rs : List ((Nat → Value) → World → Prop)} {w0 : World} {a0 : Act} {r : Nat} (os : List (Oper × List Nat)) (hr : os.length = r) (hrn : r ≤ ops.size) (hos : ∀ t (h : t < os.length), ops[t]? = some os[t].1)
    (hsel : ∀ (j : Nat) (o : Oper) cs b, ops[j]? = some o → o.op ≠ .select cs b) (hb : canonB md ops = true) (hd : distB ops = true) (hm : msB md ops ms = true)
    (hD : ∀ t (h : t < os.length), ∀ d ∈ os[t].2, (mk ms t).testBit d = true ∧ d ≠ t ∧ d < ops.size)
    (hlate : ∀ j, r ≤ j → j < ops.size → ∀ p, p < r → (mk ms j).testBit p = true)
    (hob : ∀ val, RelO P ops ms Rs w0 val 0 os a0)
    (hend : ∀ val W, Frm (fun _ => False) w0 W → (∀ i, i < r → Fact ms Rs i val W) → wpAny P md ops Q (ops.size - r) (lst ops.size r) (aL ops val a0 (List.range r)) W) :
    ∀ (n : Nat) (π : List Nat) (listed : Array Bool) (val : Nat → Value) (W : World), π.length + n = r → π.Nodup → (∀ k ∈ π, k < r) → listed.size = ops.size → (∀ k, k < ops.size → (listed.getD k false = true ↔ k ∈ π)) → Closed md ops listed →
      Frm (fun _ => False) w0 W → (∀ i ∈ π, Fact ms Rs i val W) → wpAny P md ops Q (n + (ops.size - r)) listed (aL ops val a0 π) W := by
  intro n
  induction n with
  | zero =>
    intro π listed val W hl hnd hlt hsz hli hcl hW hF
    have hall : ∀ k, k < r → k ∈ π := by
      intro k hk
      refine Classical.byContradiction fun hkn => ?_
      have := sub_len (k :: π) (List.range r) (List.nodup_cons.2 ⟨hkn, hnd⟩) fun x hx => by
        rcases List.mem_cons.1 hx with h | h
        · subst h; exact List.mem_range.2 hk
        · exact List.mem_range.2 (hlt x h)
      simp at this
      omega
    have hp : π.Perm (List.range r) := (List.perm_ext_iff_of_nodup hnd List.nodup_range).2 fun k => ⟨fun h => List.mem_range.2 (hlt k h), fun h => hall k (List.mem_range.1 h)⟩
    have hlst : listed = lst ops.size r := by
      apply Array.ext
      · simp [lst, hsz]
      · intro i h1 h2
        have hi : i < ops.size := by omega
        have := hli i hi
        simp [h1] at this
        simp only [lst, List.getElem_toArray, List.getElem_map, List.getElem_range]
        rw [Bool.eq_iff_iff, this, decide_eq_true_iff]
        exact ⟨fun h => hlt i h, fun h => hall i h⟩
    rw [Nat.zero_add, hlst, aL_perm hd val hp]
    exact hend val W hW fun i hi => hF i (hall i hi)
  | succ n ih =>
    intro π listed val W hl hnd hlt hsz hli hcl hW hF
    have hunl : ∃ k, k < r ∧ k ∉ π := by
      refine Classical.byContradiction fun hno => ?_
      have := sub_len (List.range r) π List.nodup_range fun k hk => Classical.byContradiction fun h => hno ⟨k, List.mem_range.1 hk, h⟩
      simp at this
      omega
    have hfuel : n + 1 + (ops.size - r) = (n + (ops.size - r)) + 1 := by omega
    rw [hfuel]
    have hgt : ∀ k, k < ops.size → listed.getD k true = listed.getD k false := fun k hk => by
      have : k < listed.size := by omega
      simp [this]
    refine ⟨fun hr0 => ?_, fun j hj => ?_⟩
    · exfalso
      -- the least one that has not come up is ready
      obtain ⟨k, hk, hkn⟩ := hunl
      induction k using Nat.strongRecOn with
      | _ k ihk =>
        by_cases hall : ∀ q, waits md ops k q = true → q ∈ π
        · have ho : ops[k]? = some ops[k] := Array.getElem?_eq_getElem (by omega)
          have : k ∈ Region.ready md ops listed := mem_ready.2 ⟨by
            rw [hgt k (by omega)]
            cases hq : listed.getD k false with
            | false => rfl
            | true => exact absurd ((hli k (by omega)).1 hq) hkn, _, ho, fun e he hbd => by
              have hw : waits md ops k e.on = true := (waits_iff ho).2 ⟨e, he, hbd, rfl⟩
              have := canon_lt hb hw
              exact (hli _ (by omega)).2 (hall _ hw)⟩
          rw [hr0] at this
          cases this
        · have : ∃ q, waits md ops k q = true ∧ q ∉ π := Classical.byContradiction fun h => hall fun q hq => Classical.byContradiction fun h2 => h ⟨q, hq, h2⟩
          obtain ⟨q, hq, hqn⟩ := this
          have := canon_lt hb hq
          exact ihk q this (by omega) hqn
    · obtain ⟨hun, o, ho, hafter⟩ := mem_ready.1 hj
      have hjs : j < ops.size := (Array.getElem?_eq_some_iff.1 ho).1
      have hjn : j ∉ π := fun h => by
        rw [hgt j hjs, (hli j hjs).2 h] at hun; cases hun
      have hdep : ∀ k, waits md ops j k = true → listed.getD k false = true := fun k hk => by
        obtain ⟨e, he, hbd, rfl⟩ := (waits_iff ho).1 hk
        exact hafter e he hbd
      have hclo := ms_listed hb hm hcl j hjs hdep
      have hjr : j < r := by
        rcases Nat.lt_or_ge j r with h | h
        · exact h
        · exfalso
          obtain ⟨k, hk, hkn⟩ := hunl
          rcases hclo k (by omega) (hlate j h hjs k hk) with h1 | h1
          · omega
          · exact hkn ((hli k (by omega)).1 h1)
      have ho' := hos j (by omega)
      rw [ho] at ho'
      have hoe : o = (os[j]'(by omega)).1 := Option.some.inj ho'
      have hob' := relO_at os 0 a0 (hob val) (fun t h => by rw [Nat.zero_add]; exact hos t h) j (by omega) W hW (factsD_of _ fun d hd' => by
        obtain ⟨h1, h2, h3⟩ := hD j (by omega) d hd'
        rcases hclo d h3 h1 with h4 | h4
        · exact absurd h4 h2
        · exact hF d ((hli d h3).1 h4))
      rw [← hoe, Nat.zero_add, ← List.range_eq_range'] at hob'
      have hsame := same_act hb hd ho (fun cs b => hsel j o cs b ho) val a0 π hnd (fun k hk => by have := hlt k hk; omega) hjn (fun k hk => (hli k (by have := canon_lt hb hk; omega)).1 (hdep k hk)) (fun k hk => by
        cases hw : waits md ops k j with
        | false => rfl
        | true =>
          exfalso
          have hks : k < ops.size := by have := hlt k hk; omega
          obtain ⟨e, he, hbd, he2⟩ := (waits_iff (Array.getElem?_eq_getElem hks)).1 hw
          have := hcl k ((hli k hks).2 hk) _ (Array.getElem?_eq_getElem hks) e he hbd
          rw [he2] at this
          exact hjn ((hli j hjs).1 this))
      have hok : OpOK P ops o (aL ops val a0 π) W fun u W' => Frm (fun _ => False) W W' ∧ Fact ms Rs j (updV val j u) W' := by
        unfold OpOK at hob' ⊢
        rw [hsame.1, hsame.2]
        exact hob'
      refine hok.wpOp ho fun u W' hK => ?_
      obtain ⟨g, hR⟩ := hK
      have ea : (aL ops val a0 π).put o.dst u = aL ops (updV val j u) a0 (π ++ [j]) := by
        rw [aL_append]
        have e1 : aL ops (updV val j u) a0 π = aL ops val a0 π := aL_congr π a0 fun i hi => by
          unfold updV; rw [if_neg (fun e => hjn (by rw [← e]; exact hi))]
        rw [e1]
        show _ = (aL ops val a0 π).put (dstOf ops j) (updV val j u j)
        simp [dstOf, ho, updV]
      rw [ea]
      refine ih (π ++ [j]) _ _ W' (by simp; omega) ?_ (fun k hk => ?_) (by simp [hsz]) (fun k hk => ?_) (hcl.set fun o' ho' => by rw [ho] at ho'; cases ho'; exact hafter) (hW.trans g) (fun i hi => ?_)
      · rw [List.nodup_append]
        exact ⟨hnd, by simp, fun x hx y hy => by simp at hy; subst hy; exact fun e => hjn (e ▸ hx)⟩
      · rcases List.mem_append.1 hk with h | h
        · exact hlt k h
        · simp at h; omega
      · by_cases e : j = k
        · subst e
          have : j < listed.size := by omega
          simp [this]
        · rw [getD_set_ne false e, hli k hk]
          simp [Ne.symm e]
      · rcases List.mem_append.1 hi with h | h
        · have hi' := hF i h
          have hij : i ≠ j := fun e => hjn (e ▸ h)
          have hbit : (mk ms i).testBit j = false := by
            cases ht : (mk ms i).testBit j with
            | false => rfl
            | true =>
              exfalso
              have his : i < ops.size := by have := hlt i h; omega
              rcases ms_listed hb hm hcl i his (fun k hk => by
                obtain ⟨e, he, hbd, rfl⟩ := (waits_iff (Array.getElem?_eq_getElem his)).1 hk
                exact hcl i ((hli i his).2 h) _ (Array.getElem?_eq_getElem his) e he hbd) j hjs ht with h1 | h1
              · exact hij h1.symm
              · exact hjn ((hli j hjs).1 h1)
          intro W'' g'
          have := hi' W'' (g.trans g')
          rw [rs_upd val u hbit]
          exact this
        · simp at h; subst h; exact hR

theorem left_tail (hb : canonB md ops = true) {r m : Nat} (hsz : ops.size = r + m) : Left md ops (lst ops.size r) (List.range' r m) := by
  have hg : ∀ i (b : Bool), i < ops.size → (lst ops.size r).getD i b = decide (i < r) := fun i b hi => by simp [lst, hi]
  refine ⟨fun i hi => ?_, fun i hi => ?_, List.nodup_range', ?_, fun i hi o ho e he hbd => ?_, fun i hi => ?_⟩
  · rcases Nat.lt_or_ge i ops.size with h | h
    · rw [hg i _ h, decide_eq_false_iff_not] at hi
      rw [List.mem_range'_1]; omega
    · simp [lst, Nat.not_lt.2 h] at hi
  · rw [List.mem_range'_1] at hi
    rw [hg i _ (by omega), decide_eq_false_iff_not]; omega
  · rw [List.pairwise_iff_getElem]
    intro x y hx hy hxy
    simp only [List.length_range'] at hx hy
    simp only [List.getElem_range', Nat.one_mul]
    have h := (Left.start hb).pair
    rw [List.pairwise_iff_getElem] at h
    have h2 := h (r + x) (r + y) (by simp; omega) (by simp; omega) (by omega)
    simpa using h2
  · rw [List.mem_range'_1] at hi
    have hw : waits md ops i e.on = true := (waits_iff ho).2 ⟨e, he, hbd, rfl⟩
    have hlt := canon_lt hb hw
    refine ⟨by omega, ?_⟩
    rcases Nat.lt_or_ge e.on r with h | h
    · right; rw [hg _ _ (by omega), decide_eq_true h]
    · left; rw [List.mem_range'_1]; omega
  · rw [List.mem_range'_1] at hi
    exact ⟨_, Array.getElem?_eq_getElem (by omega)⟩
/-- The values put, over the operations themselves. -/
def aO (val : Nat → Value) : Act → List Oper → Nat → Act
  | a, [], _ => a
  | a, o :: os, k => aO val (a.put o.dst (val k)) os (k + 1)
theorem aL_aO (val : Nat → Value) : ∀ (os : List Oper) (k : Nat) (a : Act), (∀ t (h : t < os.length), ops[k + t]? = some os[t]) → aL ops val a (List.range' k os.length) = aO val a os k := by
  intro os
  induction os with
  | nil => intro k a _; rfl
  | cons o os ih =>
    intro k a h
    have e0 : dstOf ops k = o.dst := by
      have := h 0 (by simp)
      simp at this
      simp [dstOf, this]
    rw [List.length_cons, List.range'_succ]
    show aL ops val (a.put (dstOf ops k) (val k)) _ = aO val (a.put o.dst (val k)) os (k + 1)
    rw [e0]
    exact ih (k + 1) _ fun t ht => by
      have := h (t + 1) (by simp; omega)
      rw [show k + 1 + t = k + (t + 1) by omega]
      simpa using this
def chkD (n : Nat) (ms : List Nat) : Nat → List (List Nat) → Bool
  | _, [] => true
  | k, D :: Ds => (D.all fun d => (mk ms k).testBit d && d != k && decide (d < n)) && chkD n ms (k + 1) Ds
theorem chkD_at {n : Nat} {ms : List Nat} : ∀ (Ds : List (List Nat)) (k : Nat), chkD n ms k Ds = true → ∀ t (h : t < Ds.length), ∀ d ∈ Ds[t], (mk ms (k + t)).testBit d = true ∧ d ≠ k + t ∧ d < n := by
  intro Ds
  induction Ds with
  | nil => intro k _ t h; cases h
  | cons D Ds ih =>
    intro k hc t ht d hd
    simp only [chkD, Bool.and_eq_true, List.all_eq_true] at hc
    cases t with
    | zero =>
      have := hc.1 d hd
      simp at this
      exact ⟨this.1.1, this.1.2, this.2⟩
    | succ t =>
      have := ih (k + 1) hc.2 t (by simpa using ht) d hd
      rwa [show k + 1 + t = k + (t + 1) by omega] at this
def chkL (n r : Nat) (ms : List Nat) : Bool := (List.range' r (n - r)).all fun j => (List.range r).all fun p => (mk ms j).testBit p
def chkC (md : Region.Mode) (ops : Array Oper) (r m : Nat) : Bool := (List.range (m - 1)).all fun k => waits md ops (r + k + 1) (r + k)

theorem wp_region_rel {id : Nat} {a : Act} {w : World} (r m : Nat) (Ds : List (List Nat)) (ms : List Nat) (Rs : List ((Nat → Value) → World → Prop)) {os' os ts : List Oper} (hm : P.follows .mixedOrders = true) (hos' : ops = os'.toArray) (hsp : splitN r os' = some (os, ts)) (hsz : ops.size = r + m)
    (hn : Region.noSelect ops = true) (hb : canonB .any ops = true) (hd : distB ops = true) (hms : msB .any ops ms = true) (hDl : Ds.length = r) (hDs : chkD ops.size ms 0 Ds = true) (hL : chkL ops.size r ms = true) (hC : chkC .any ops r m = true)
    (hob : ∀ val, RelO P ops ms Rs w.drew val 0 (os.zip Ds) a)
    (hend : ∀ val W, Frm (fun _ => False) w.drew W → FactsD ms Rs val W (List.range r) → wpTail P ops Q r m (aO val a os 0) W) : (Code.region id ops true).wp P Q a w := by
  obtain ⟨h1, h2⟩ := splitN_eq _ _ _ _ hsp
  refine wp_region_any hm ?_
  have hopt : ∀ t (h : t < os.length), ops[t]? = some os[t] := fun t h => by
    subst hos'
    simp [h1, List.getElem?_append, h]
  have hlen : (os.zip Ds).length = r := by simp [h2, hDl]
  have hall := rel_any (Q := Q) (ms := ms) (Rs := Rs) (w0 := w.drew) (a0 := a) (r := r) (os.zip Ds) hlen (by omega) (fun t h => by
      simp only [List.getElem_zip]
      exact hopt t (by omega)) (Region.noSelect_spec hn) hb hd hms
    (fun t h d hd => by
      simp only [List.getElem_zip] at hd
      have := chkD_at Ds 0 hDs t (by omega) d hd
      rwa [Nat.zero_add] at this)
    (fun j hj hjs p hp => by
      simp only [chkL, List.all_eq_true, List.mem_range, List.mem_range'_1] at hL
      exact hL j ⟨hj, by omega⟩ p hp) hob
    (fun val W hW hF => by
      have e1 : List.range r = List.range' 0 os.length := by rw [h2, List.range_eq_range']
      rw [e1, aL_aO val os 0 a (fun t h => by rw [Nat.zero_add]; exact hopt t h)]
      have e2 : ops.size - r = m := by omega
      rw [e2]
      refine chain_any m r _ _ _ (fun k hk => ?_) (left_tail hb hsz) (hend val W hW (factsD_of _ fun d hd => hF d (List.mem_range.1 hd)))
      simp only [chkC, List.all_eq_true, List.mem_range] at hC
      exact hC k (by omega))
    r [] (Array.replicate ops.size false) (fun _ => undef) w.drew (by simp) (by simp) (by simp) (by simp) (fun k hk => by simp [hk]) (Closed.start _ _) (Frm.refl _ _) (by simp)
  have e3 : r + (ops.size - r) = ops.size := by omega
  rw [e3] at hall
  exact hall

theorem RelO.nil {ms : List Nat} {Rs : List ((Nat → Value) → World → Prop)} {w0 : World} {val : Nat → Value} {k : Nat} {l : List (List Nat)} {a : Act} : RelO P ops ms Rs w0 val k (List.zip [] l) a := trivial
theorem RelO.cons {ms : List Nat} {Rs : List ((Nat → Value) → World → Prop)} {w0 : World} {val : Nat → Value} {k : Nat} {o : Oper} {os : List Oper} {D : List Nat} {Ds : List (List Nat)} {a : Act}
    (h1 : ∀ W, Frm (fun _ => False) w0 W → FactsD ms Rs val W D → OpOK P ops o a W fun u W' => Frm (fun _ => False) W W' ∧ Fact ms Rs k (updV val k u) W') (h2 : RelO P ops ms Rs w0 val (k + 1) (List.zip os Ds) (a.put o.dst (val k))) :
    RelO P ops ms Rs w0 val k (List.zip (o :: os) (D :: Ds)) a := ⟨h1, h2⟩
theorem OpOK.val {ms : List Nat} {Rs : List ((Nat → Value) → World → Prop)} {val : Nat → Value} {k : Nat} {o : Oper} {a : Act} {W : World} {u : Value} (hw : Region.wanted o (yielded ops a.tmps) = true)
    (h : (execOp a.eval o).run P W = .ok (.value u) W) (hR : Fact ms Rs k (updV val k u) W) : OpOK P ops o a W fun u W' => Frm (fun _ => False) W W' ∧ Fact ms Rs k (updV val k u) W' :=
  .inl ⟨hw, by rw [h]; exact ⟨Frm.refl _ _, hR⟩⟩
theorem OpOK.skip {ms : List Nat} {Rs : List ((Nat → Value) → World → Prop)} {val : Nat → Value} {k : Nat} {o : Oper} {a : Act} {W : World} (hw : Region.wanted o (yielded ops a.tmps) = false)
    (hR : Fact ms Rs k (updV val k undef) W) : OpOK P ops o a W fun u W' => Frm (fun _ => False) W W' ∧ Fact ms Rs k (updV val k u) W' := .inr ⟨hw, Frm.refl _ _, hR⟩
theorem OpOK.made {ms : List Nat} {Rs : List ((Nat → Value) → World → Prop)} {val : Nat → Value} {k : Nat} {o : Oper} {a : Act} {W W' : World} {u : Value} (hw : Region.wanted o (yielded ops a.tmps) = true)
    (h : (execOp a.eval o).run P W = .ok (.value u) W') (g : Frm (fun _ => False) W W') (hR : Fact ms Rs k (updV val k u) W') : OpOK P ops o a W fun u W' => Frm (fun _ => False) W W' ∧ Fact ms Rs k (updV val k u) W' :=
  .inl ⟨hw, by rw [h]; exact ⟨g, hR⟩⟩
theorem OpOK.call {ms : List Nat} {Rs : List ((Nat → Value) → World → Prop)} {val : Nat → Value} {k : Nat} {o : Oper} {a : Act} {W : World} {f : FuncId} {args : Array Value} (hw : Region.wanted o (yielded ops a.tmps) = true)
    (h : (execOp a.eval o).run P W = .ok (.enter f args) W) (hc : Calls P f args W fun e W' => ∃ u, e = .returned u ∧ Frm (fun _ => False) W W' ∧ Fact ms Rs k (updV val k u) W') : OpOK P ops o a W fun u W' => Frm (fun _ => False) W W' ∧ Fact ms Rs k (updV val k u) W' :=
  .inl ⟨hw, by rw [h]; exact hc⟩
/-- The i-th part of several values. -/
def tupAt (v : Value) (i : Nat) : Value := match v with
  | .tuple xs => xs.getD i undef
  | _ => undef
end
end Go.Proofs.Ytjodkgbpbibfbaa
