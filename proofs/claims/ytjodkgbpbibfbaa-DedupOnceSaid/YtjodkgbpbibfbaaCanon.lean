/- A region that asks for its order, all of whose operations give, in every world that meets S, one value each, and leave a world that meets S: one order stands for all. Of no program. No condition. -/
import Derived.Test.YtjodkgbpbibfbaaRows
import Derived.WalkKit
import Derived.OrdersHeld
import Derived.Lib.Hide
namespace Go.Proofs.Ytjodkgbpbibfbaa
open Go.RowKit

section
variable {P : Program} {ops : Array Oper} {Q : Exit → Act → World → Prop} {S : World → Prop} {F : Act → Prop}

/-- An operation's run ends in the value v, or in a call that does, and S holds behind it. -/
def Gives (P : Program) (S : World → Prop) (v : Value) : Result Next → Prop
  | .ok (.value u) w' => u = v ∧ S w'
  | .ok .skip w' => v = undef ∧ S w'
  | .ok (.enter f args) w' => Calls P f args w' fun e w'' => e = .returned v ∧ S w''
  | _ => False

/-- In state a operation o gives v, in every world that meets S; or it is passed over. -/
def Det (P : Program) (ops : Array Oper) (S : World → Prop) (o : Oper) (v : Value) (a : Act) : Prop :=
  (Region.wanted o (yielded ops a.tmps) = true ∧ ∀ w, S w → Gives P S v ((execOp a.eval o).run P w)) ∨
  (Region.wanted o (yielded ops a.tmps) = false ∧ v = undef)

theorem Det.of_same {o : Oper} {v : Value} {a a' : Act} (hy : Det P ops S o v a) (he : execOp a'.eval o = execOp a.eval o)
    (hw : Region.wanted o (yielded ops a'.tmps) = Region.wanted o (yielded ops a.tmps)) : Det P ops S o v a' := by
  unfold Det at *
  rw [he, hw]
  exact hy

theorem Det.wpOp {i : Nat} {o : Oper} {v : Value} {a : Act} (hi : ops[i]? = some o) (hy : Det P ops S o v a)
    {K : Act → World → Prop} {w : World} (hS : S w) (h : ∀ w', S w' → K (a.put o.dst v) w') : wpOp P ops Q i K a w := by
  unfold Go.wpOp
  simp only [hi]
  rcases hy with ⟨hw, hv⟩ | ⟨hw, rfl⟩
  · simp only [hw, if_true]
    refine .inl ?_
    have hv := hv w hS
    unfold Oper.wp
    generalize (execOp a.eval o).run P w = r at *
    cases r with
    | ok n w' =>
      cases n <;> simp only [Gives] at hv
      case value u => obtain ⟨rfl, h2⟩ := hv; exact h _ h2
      case skip => obtain ⟨rfl, h2⟩ := hv; exact h _ h2
      case enter f args =>
        simp only [Oper.upon]
        refine Calls.mono hv fun e w'' he => ?_
        obtain ⟨rfl, h2⟩ := he
        exact h _ h2
    | halt x w' => exact hv.elim
  · simp only [hw, Bool.false_eq_true, if_false]; exact h w hS

/-- The operations, one behind the other in this order, each with its value: the state behind them meets F. -/
def Canon (P : Program) (ops : Array Oper) (S : World → Prop) (F : Act → Prop) : List Nat → Act → Prop
  | [], a => F a
  | i :: is, a => ∃ o v, ops[i]? = some o ∧ Det P ops S o v a ∧ Canon P ops S F is (a.put o.dst v)

/-- Operation j waits for operation p. -/
def waits (md : Region.Mode) (ops : Array Oper) (j p : Nat) : Bool := ((ops[j]?).map fun o => o.after.any fun e => Region.binds md e && e.on == p).getD false
/-- Operation j is apart from operation p. -/
def apartB (ops : Array Oper) (p j : Nat) : Bool := match ops[p]?, ops[j]? with
  | some x, some y => x.apart ops y
  | _, _ => false

theorem swap_ {p j : Nat} {rest : List Nat} {a : Act} (hsel : ∀ (j : Nat) (o : Oper) cs b, ops[j]? = some o → o.op ≠ .select cs b) (hap : apartB ops p j = true)
    (h : Canon P ops S F (p :: j :: rest) a) : Canon P ops S F (j :: p :: rest) a := by
  obtain ⟨o, v, ho, hd, o2, u, ho2, hd2, hr⟩ := h
  simp only [apartB, ho, ho2] at hap
  obtain ⟨h1, h2, h3⟩ := Oper.apart_spec hap
  refine ⟨o2, u, ho2, hd2.of_same (execOp_put o2 (fun cs b => hsel j o2 cs b ho2) a o.dst v h1).symm (wanted_put o2 a o.dst v h1).symm, o, v, ho,
    hd.of_same (execOp_put o (fun cs b => hsel p o cs b ho) a o2.dst u h3) (wanted_put o a o2.dst u h3), ?_⟩
  rw [← Act.put_comm a v u h2]
  exact hr

theorem move_ {j : Nat} {post : List Nat} (hsel : ∀ (j : Nat) (o : Oper) cs b, ops[j]? = some o → o.op ≠ .select cs b) :
    ∀ (pre : List Nat) (a : Act), (∀ p ∈ pre, apartB ops p j = true) → Canon P ops S F (pre ++ j :: post) a → Canon P ops S F (j :: (pre ++ post)) a := by
  intro pre
  induction pre with
  | nil => intro a _ h; exact h
  | cons p pre ih =>
    intro a hap h
    obtain ⟨o, v, ho, hd, hr⟩ := h
    have h2 := ih _ (fun q hq => hap q (List.mem_cons_of_mem _ hq)) hr
    exact swap_ hsel (hap p List.mem_cons_self) ⟨o, v, ho, hd, h2⟩

/-- What is still to come up, in an order that may be picked. -/
structure Left (md : Region.Mode) (ops : Array Oper) (listed : Array Bool) (is : List Nat) : Prop where
  here : ∀ i, listed.getD i true = false → i ∈ is
  un : ∀ i ∈ is, listed.getD i true = false
  nodup : is.Nodup
  pair : is.Pairwise fun p j => waits md ops p j = false ∧ (waits md ops j p = true ∨ apartB ops p j = true)
  deps : ∀ i ∈ is, ∀ o, ops[i]? = some o → ∀ e ∈ o.after, Region.binds md e = true → e.on ≠ i ∧ (e.on ∈ is ∨ listed.getD e.on false = true)
  there : ∀ i ∈ is, ∃ o, ops[i]? = some o

theorem waits_iff {md : Region.Mode} {j p : Nat} {o : Oper} (ho : ops[j]? = some o) : waits md ops j p = true ↔ ∃ e ∈ o.after, Region.binds md e = true ∧ e.on = p := by
  simp only [waits, ho, Option.map_some, Option.getD_some, Array.any_eq_true, Bool.and_eq_true, beq_iff_eq]
  constructor
  · rintro ⟨i, h, h1, h2⟩
    exact ⟨o.after[i], Array.getElem_mem h, h1, h2⟩
  · rintro ⟨e, he, h1, h2⟩
    obtain ⟨i, h, rfl⟩ := Array.mem_iff_getElem.1 he
    exact ⟨i, h, h1, h2⟩

theorem unlisted_ne {listed : Array Bool} {p : Nat} (h : listed.getD p true = false) : listed.getD p false ≠ true := by
  intro h2
  rcases Nat.lt_or_ge p listed.size with h' | h'
  · simp [h'] at h h2; rw [h] at h2; cases h2
  · simp [Array.getElem?_eq_none h'] at h2

theorem Left.head {md : Region.Mode} {listed : Array Bool} {i : Nat} {is : List Nat} (h : Left md ops listed (i :: is)) : i ∈ Region.ready md ops listed := by
  obtain ⟨o, ho⟩ := h.there i List.mem_cons_self
  refine mem_ready.2 ⟨h.un i List.mem_cons_self, o, ho, fun e he hb => ?_⟩
  obtain ⟨h1, h2⟩ := h.deps i List.mem_cons_self o ho e he hb
  rcases h2 with h2 | h2
  · rcases List.mem_cons.1 h2 with h3 | h3
    · exact absurd h3 h1
    · have := (List.pairwise_cons.1 h.pair).1 e.on h3
      have hw : waits md ops i e.on = true := (waits_iff ho).2 ⟨e, he, hb, rfl⟩
      rw [hw] at this
      cases this.1
  · exact h2

theorem Left.take {md : Region.Mode} {listed : Array Bool} {j : Nat} {pre post : List Nat} (h : Left md ops listed (pre ++ j :: post)) : Left md ops (listed.setIfInBounds j true) (pre ++ post) := by
  have hsub : (pre ++ post).Sublist (pre ++ j :: post) := List.Sublist.append_left (List.sublist_cons_self _ _) _
  have hnd := h.nodup
  have hj : j ∉ pre ++ post := by
    rw [List.nodup_append] at hnd
    obtain ⟨_, h2, h3⟩ := hnd
    intro hm
    rcases List.mem_append.1 hm with hm | hm
    · exact h3 j hm j List.mem_cons_self rfl
    · exact (List.nodup_cons.1 h2).1 hm
  refine ⟨fun i hi => ?_, fun i hi => ?_, h.nodup.sublist hsub, h.pair.sublist hsub, fun i hi o ho e he hb => ?_, fun i hi => h.there i (hsub.subset hi)⟩
  · by_cases e : j = i
    · subst e
      exfalso
      rcases Nat.lt_or_ge j listed.size with h' | h'
      · simp [h'] at hi
      · simp at hi
    · rw [getD_set_ne true e] at hi
      have := h.here i hi
      rcases List.mem_append.1 this with hm | hm
      · exact List.mem_append_left _ hm
      · rcases List.mem_cons.1 hm with hm | hm
        · exact absurd hm.symm e
        · exact List.mem_append_right _ hm
  · have e : j ≠ i := fun e => hj (e ▸ hi)
    rw [getD_set_ne true e]
    exact h.un i (hsub.subset hi)
  · obtain ⟨h1, h2⟩ := h.deps i (hsub.subset hi) o ho e he hb
    refine ⟨h1, ?_⟩
    by_cases e2 : j = e.on
    · right
      have hu := h.un j (by simp)
      rcases Nat.lt_or_ge j listed.size with h' | h'
      · rw [← e2]; simp [h']
      · simp [Array.getElem?_eq_none h'] at hu
    · rcases h2 with h2 | h2
      · left
        rcases List.mem_append.1 h2 with hm | hm
        · exact List.mem_append_left _ hm
        · rcases List.mem_cons.1 hm with hm | hm
          · exact absurd hm.symm e2
          · exact List.mem_append_right _ hm
      · right; rw [getD_set_ne false e2]; exact h2

theorem canon_any {md : Region.Mode} (hsel : ∀ (j : Nat) (o : Oper) cs b, ops[j]? = some o → o.op ≠ .select cs b) (hQ : ∀ a w, F a → S w → Q .normal a w) :
    ∀ (n : Nat) (is : List Nat) (listed : Array Bool) (a : Act) (w : World), is.length = n → S w → Left md ops listed is → Canon P ops S F is a → wpAny P md ops Q n listed a w := by
  intro n
  induction n with
  | zero =>
    intro is listed a w hl hS hv hc
    obtain rfl : is = [] := List.eq_nil_of_length_eq_zero hl
    refine ⟨?_, hQ a w hc hS⟩
    rw [List.eq_nil_iff_forall_not_mem]
    intro j hj
    have := hv.here j (mem_ready.1 hj).1
    simp at this
  | succ n ih =>
    intro is listed a w hl hS hv hc
    refine ⟨fun hr => ?_, fun j hj => ?_⟩
    · cases is with
      | nil => simp at hl
      | cons i is => have := hv.head; rw [hr] at this; simp at this
    · obtain ⟨hun, oj, hoj, hall⟩ := mem_ready.1 hj
      obtain ⟨pre, post, rfl⟩ := List.append_of_mem (hv.here j hun)
      have hap : ∀ p ∈ pre, apartB ops p j = true := by
        intro p hp
        have h1 := (List.pairwise_append.1 hv.pair).2.2 p hp j List.mem_cons_self
        rcases h1.2 with h2 | h2
        · exfalso
          obtain ⟨e, he, hb, rfl⟩ := (waits_iff hoj).1 h2
          exact unlisted_ne (hv.un e.on (List.mem_append_left _ hp)) (hall e he hb)
        · exact h2
      obtain ⟨o, v, ho, hd, hr⟩ := move_ hsel pre a hap hc
      exact hd.wpOp ho hS fun w' hS' => ih _ _ _ _ (by simp at hl ⊢; omega) hS' hv.take hr

/-- Is the order in which the operations stand one that may be picked, and are those that do not wait for one another apart? -/
def canonB (md : Region.Mode) (ops : Array Oper) : Bool :=
  (List.range ops.size).all fun j => ((ops[j]?).map fun o => o.after.all fun e => !Region.binds md e || decide (e.on < j)).getD false &&
    (List.range j).all fun p => waits md ops j p || apartB ops p j

theorem pairwise_range (R : Nat → Nat → Prop) : ∀ n, (∀ p j, p < j → j < n → R p j) → (List.range n).Pairwise R := by
  intro n h
  rw [List.pairwise_iff_getElem]
  intro i j hi hj hij
  simp only [List.length_range] at hi hj
  simp only [List.getElem_range]
  exact h i j hij hj

theorem Left.start {md : Region.Mode} (h : canonB md ops = true) : Left md ops (Array.replicate ops.size false) (List.range ops.size) := by
  simp only [canonB, List.all_eq_true, Bool.and_eq_true, List.mem_range, Bool.or_eq_true] at h
  have hafter : ∀ j, j < ops.size → ∀ o, ops[j]? = some o → ∀ e ∈ o.after, Region.binds md e = true → e.on < j := by
    intro j hj o ho e he hb
    have h1 := (h j hj).1
    simp only [ho, Option.map_some, Option.getD_some, Array.all_eq_true_iff_forall_mem, Bool.or_eq_true, decide_eq_true_eq] at h1
    rcases h1 e he with h2 | h2
    · rw [hb] at h2; simp at h2
    · exact h2
  refine ⟨fun i hi => ?_, fun i hi => ?_, List.nodup_range, pairwise_range _ _ fun p j hpj hj => ⟨?_, ?_⟩, fun i hi o ho e he hb => ?_, fun i hi => ?_⟩
  · rcases Nat.lt_or_ge i ops.size with h' | h'
    · exact List.mem_range.2 h'
    · simp [Nat.not_lt.2 h'] at hi
  · have := List.mem_range.1 hi
    simp [this]
  · have hp : p < ops.size := by omega
    cases hw : waits md ops p j with
    | false => rfl
    | true =>
      obtain ⟨e, he, hb, h3⟩ := (waits_iff (Array.getElem?_eq_getElem hp)).1 hw
      have := hafter p hp _ (Array.getElem?_eq_getElem hp) e he hb
      omega
  · exact (h j hj).2 p hpj
  · have hi' := List.mem_range.1 hi
    have := hafter i hi' o ho e he hb
    exact ⟨by omega, .inl (List.mem_range.2 (by omega))⟩
  · exact ⟨_, Array.getElem?_eq_getElem (List.mem_range.1 hi)⟩

/-- The same, over the operations themselves. -/
def CanonL (P : Program) (ops : Array Oper) (S : World → Prop) (F : Act → Prop) : List Oper → Act → Prop
  | [], a => F a
  | o :: os, a => ∃ v, Det P ops S o v a ∧ CanonL P ops S F os (a.put o.dst v)

theorem canon_of : ∀ (os : List Oper) (k : Nat) (a : Act), (∀ j (h : j < os.length), ops[k + j]? = some os[j]) → CanonL P ops S F os a → Canon P ops S F (List.range' k os.length) a := by
  intro os
  induction os with
  | nil => intro k a _ h; exact h
  | cons o os ih =>
    intro k a hk h
    obtain ⟨v, hd, hr⟩ := h
    rw [List.length_cons, List.range'_succ]
    refine ⟨o, v, hk 0 (by simp), hd, ih (k + 1) _ (fun j hj => ?_) hr⟩
    have := hk (j + 1) (by simp; omega)
    rw [show k + (j + 1) = k + 1 + j from by omega] at this
    simpa using this

theorem wp_region_canon {id : Nat} {a : Act} {w : World} (S : World → Prop) {os : List Oper} (hm : P.follows .mixedOrders = true) (hos : ops = os.toArray) (hn : Region.noSelect ops = true) (hb : canonB .any ops = true)
    (hS : S w.drew) (hc : CanonL P ops S (fun a => ∀ w, S w → Q .normal a w) os a) : (Code.region id ops true).wp P Q a w := by
  refine wp_region_any hm (canon_any (F := fun a => ∀ w, S w → Q .normal a w) (Region.noSelect_spec hn) (fun a w hF hS => hF w hS) ops.size (List.range ops.size) _ a _ (by simp) hS (Left.start hb) ?_)
  have h := canon_of os 0 a (fun j h => by subst hos; simp [h]) hc
  rw [List.range_eq_range', hos]
  simpa using (hos ▸ h)

/-- A region that keeps the text's order, by the same words. -/
theorem canon_ops (hQ : ∀ a w, F a → S w → Q .normal a w) : ∀ (is : List Nat) (a : Act) (w : World), S w → Canon P ops S F is a → wpOps P ops Q is a w := by
  intro is
  induction is with
  | nil => intro a w hS h; exact hQ a w h hS
  | cons i is ih =>
    intro a w hS h
    obtain ⟨o, v, ho, hd, hr⟩ := h
    rw [wpOps_cons]
    exact hd.wpOp ho hS fun w' hS' => ih _ _ hS' hr
theorem wp_region_seq {id : Nat} {a : Act} {w : World} (S : World → Prop) {os : List Oper} (hos : ops = os.toArray)
    (hS : S w) (hc : CanonL P ops S (fun a => ∀ w, S w → Q .normal a w) os a) : (Code.region id ops false).wp P Q a w := by
  refine wp_region (canon_ops (F := fun a => ∀ w, S w → Q .normal a w) (fun a w hF hS => hF w hS) (List.range ops.size) a w hS ?_)
  have h := canon_of os 0 a (fun j h => by subst hos; simp [h]) hc
  rw [List.range_eq_range', hos]
  simpa using (hos ▸ h)

theorem CanonL.skip {os : List Oper} {a : Act} {o : Oper} (hw : Region.wanted o (yielded ops a.tmps) = false) (hK : CanonL P ops S F os (a.put o.dst undef)) : CanonL P ops S F (o :: os) a :=
  ⟨undef, .inr ⟨hw, rfl⟩, hK⟩
theorem CanonL.val {os : List Oper} {a : Act} {o : Oper} {v : Value} (hw : Region.wanted o (yielded ops a.tmps) = true)
    (h : ∀ w, S w → (execOp a.eval o).run P w = .ok (.value v) w) (hK : CanonL P ops S F os (a.put o.dst v)) : CanonL P ops S F (o :: os) a :=
  ⟨v, .inl ⟨hw, fun w hS => by rw [h w hS]; exact ⟨rfl, hS⟩⟩, hK⟩
theorem CanonL.call {os : List Oper} {a : Act} {o : Oper} {v : Value} {f : FuncId} {args : Array Value} (hw : Region.wanted o (yielded ops a.tmps) = true)
    (h : ∀ w, (execOp a.eval o).run P w = .ok (.enter f args) w) (hcall : ∀ w, S w → Calls P f args w fun e w' => e = .returned v ∧ S w') (hK : CanonL P ops S F os (a.put o.dst v)) : CanonL P ops S F (o :: os) a :=
  ⟨v, .inl ⟨hw, fun w hS => by rw [h w]; exact hcall w hS⟩, hK⟩
/-- The same by a contract of the callee, whatever the world. -/
theorem CanonL.callT {os : List Oper} {a : Act} {o : Oper} {v : Value} {f : FuncId} {args : Array Value} {T : World → World → Prop} (hw : Region.wanted o (yielded ops a.tmps) = true)
    (h : ∀ w, (execOp a.eval o).run P w = .ok (.enter f args) w) (hcall : Hid (∀ w, Calls P f args w fun e w' => e = .returned v ∧ T w w')) (hST : ∀ w w', S w → T w w' → S w')
    (hK : CanonL P ops S F os (a.put o.dst v)) : CanonL P ops S F (o :: os) a :=
  CanonL.call hw h (fun w hS => (hcall.out w).mono fun _ w' he => ⟨he.1, hST w w' hS he.2⟩) hK
theorem CanonL.done {a : Act} (h : F a) : CanonL P ops S F [] a := h
end
end Go.Proofs.Ytjodkgbpbibfbaa
