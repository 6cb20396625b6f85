/- As Rel, where some of the first operations (parts of what a call answered) may come up late, among the stores at the end: these wait for all others. Of no program. No condition. -/
import Derived.Test.YtdhnidmeeocajaaRel
import Derived.MapKept
namespace Go.Proofs.Ytdhnidmeeocajaa
open Go.RowKit

section
variable {P : Program} {ops : Array Oper} {Q : Exit → Act → World → Prop} {md : Region.Mode}
/-- Only the normal way on. -/
def QN (Q : Exit → Act → World → Prop) : Exit → Act → World → Prop := fun e a w => match e with
  | .normal => Q .normal a w
  | _ => False
theorem wpOp_late {t : Nat} {o : Oper} {A a : Act} {W : World} {Kt K : Act → World → Prop} (ho : ops[t]? = some o) (he : execOp A.eval o = execOp a.eval o) (hw : Region.wanted o (yielded ops A.tmps) = Region.wanted o (yielded ops a.tmps))
    (hK : ∀ u w', Kt (A.put o.dst u) w' → K (a.put o.dst u) w') (hD : ∀ d w', Kt (({ A with defers := d :: A.defers } : Act).put o.dst undef) w' → K (({ a with defers := d :: a.defers } : Act).put o.dst undef) w')
    (h : wpOp P ops (QN Q) t Kt A W) : wpOp P ops Q t K a W := by
  unfold wpOp at *
  simp only [ho] at *
  rw [← hw]
  split
  · rename_i h1
    rw [if_pos h1] at h
    rcases h with h | ⟨_, a', w', h⟩
    · left
      unfold Oper.wp at *
      rw [← he]
      generalize (execOp A.eval o).run P W = r at *
      cases r with
      | ok n w' =>
        cases n <;> simp only [Oper.upon] at h ⊢
        case value v => exact hK _ _ h
        case skip => exact hK _ _ h
        case defer d => exact hD _ _ h
        case enter f args =>
          exact Calls.mono h fun e w'' he => by
            cases e with
            | returned v => exact hK _ _ he
            | panicked c => exact he.elim
            | outgrown => obtain ⟨_, _, h⟩ := he; exact h.elim
        case row r args => exact Rows.mono h fun _ _ he => hK _ _ he
      | halt x w' => cases x <;> simp only [Oper.upon] at h ⊢ <;> exact h.elim
    · exact h.elim
  · rename_i h1
    rw [if_neg h1] at h
    exact hK _ _ h

def pureB (o : Oper) : Bool := o.guard.isNone && match o.op with
  | .extract _ _ => true
  | .move _ => true
  | _ => false
theorem pure_wanted {o : Oper} (h : pureB o = true) (y : Nat → Option Bool) : Region.wanted o y = true := by
  simp only [pureB, Bool.and_eq_true, Option.isNone_iff_eq_none] at h
  unfold Region.wanted
  rw [h.1]
theorem pure_ok {o : Oper} (h : pureB o = true) {e : Operand → Value} {W : World} {K : Value → World → Prop} (hk : StepK P K ((execOp e o).run P W)) : ∃ u, K u W ∧ ∀ W', (execOp e o).run P W' = .ok (.value u) W' := by
  simp only [pureB, Bool.and_eq_true] at h
  obtain ⟨_, h⟩ := h
  unfold execOp at hk ⊢
  split at h
  · rename_i t i ho
    simp only [ho] at hk ⊢
    unfold Instr.extract at hk ⊢
    split at hk
    · split at hk
      · exact ⟨_, hk, fun _ => rfl⟩
      · exact hk.elim
    · exact hk.elim
  · rename_i x ho
    simp only [ho] at hk ⊢
    exact ⟨_, hk, fun _ => rfl⟩
  · cases h
/-- Operation k would answer val k at a, whatever the world. -/
def Floats (P : Program) (ops : Array Oper) (val : Nat → Value) (a : Act) (k : Nat) : Prop := ∃ o, ops[k]? = some o ∧ Region.wanted o (yielded ops a.tmps) = true ∧ (∀ cs b, o.op ≠ .select cs b) ∧ ∀ W, (execOp a.eval o).run P W = .ok (.value (val k)) W
theorem Floats.put {val : Nat → Value} {a : Act} {k j : Nat} {o : Oper} (h : Floats P ops val a k) (hj : ops[j]? = some o) (hbl : blind ops k j) (u : Value) : Floats P ops val (a.put o.dst u) k := by
  obtain ⟨p, hp, hw, hs, hr⟩ := h
  have hb := hbl p hp
  have hdd : ∀ d, o.dst = some d → d ∉ p.looksAt ops := fun d hd => hb d (by simp [dstOf, hj, hd])
  refine ⟨p, hp, ?_, hs, fun W => ?_⟩
  · rw [wanted_put p a _ _ hdd]; exact hw
  · rw [execOp_put p hs a _ _ hdd]; exact hr W
theorem aL_out (hd : distB ops = true) (val : Nat → Value) {t : Nat} {o : Oper} (ho : ops[t]? = some o) (u : Value) (L : List Nat) (ht : t ∉ L) (a : Act) : (aL ops val a L).put o.dst u = aL ops val (a.put o.dst u) L := by
  have e0 : dstOf ops t = o.dst := by simp [dstOf, ho]
  have h1 : aL ops (updV val t u) a (L ++ [t]) = aL ops (updV val t u) a (t :: L) := aL_perm hd _ (List.perm_append_comm (l₁ := L) (l₂ := [t])) a
  have hc : ∀ a, aL ops (updV val t u) a L = aL ops val a L := fun a => aL_congr L a fun i hi => by
    unfold updV; rw [if_neg (fun e => ht (by rw [← e]; exact hi))]
  rw [aL_append, hc] at h1
  have e1 : aL ops (updV val t u) a (t :: L) = aL ops val (a.put o.dst u) L := by
    show aL ops (updV val t u) (a.put (dstOf ops t) (updV val t u t)) L = _
    rw [hc, e0]
    simp [updV]
  rw [e1] at h1
  rw [← h1]
  show _ = (aL ops val a L).put (dstOf ops t) (updV val t u t)
  rw [e0]
  simp [updV]
theorem aL_defers (val : Nat → Value) : ∀ (L : List Nat) (a : Act) (X : List Deferred), aL ops val ({ a with defers := X } : Act) L = { aL ops val a L with defers := X } ∧ (aL ops val a L).defers = a.defers := by
  intro L
  induction L with
  | nil => intro a X; exact ⟨rfl, rfl⟩
  | cons i L ih =>
    intro a X
    have hp : ∀ (a : Act) (X : List Deferred) (d : Option Tmp) (v : Value), (({ a with defers := X } : Act).put d v = { a.put d v with defers := X }) ∧ (a.put d v).defers = a.defers := by
      intro a X d v
      cases d <;> exact ⟨rfl, rfl⟩
    show aL ops val (({ a with defers := X } : Act).put _ _) L = { aL ops val (a.put _ _) L with defers := X } ∧ (aL ops val (a.put _ _) L).defers = a.defers
    rw [(hp a X _ _).1, (ih _ X).1, (ih (a.put (dstOf ops i) (val i)) X).2, (hp a X _ _).2]
    exact ⟨rfl, rfl⟩

theorem late_any (hb : canonB md ops = true) (hd : distB ops = true) (hsel : ∀ (j : Nat) (o : Oper) cs b, ops[j]? = some o → o.op ≠ .select cs b) {r : Nat} (val : Nat → Value) :
    ∀ (n t m : Nat) (L : List Nat) (listed : Array Bool) (a : Act) (W : World), m + L.length = n → ops.size = t + m → r ≤ t → L.Nodup → (∀ k ∈ L, k < r) → listed.size = ops.size → (∀ k, k < ops.size → (listed.getD k false = false ↔ k ∈ L ∨ t ≤ k)) →
      (∀ k, k + 1 < m → waits md ops (t + k + 1) (t + k) = true) → (∀ j ∈ L, ∀ k ∈ L, waits md ops j k = false) → (∀ k ∈ L, Floats P ops val a k) → wpTail P ops (QN Q) t m (aL ops val a L) W → wpAny P md ops Q n listed a W := by
  intro n
  induction n with
  | zero =>
    intro t m L listed a W hn hsz hrt hnd hL hls hli hch hmu hfl ht
    have hm : m = 0 := by omega
    subst hm
    have hL0 : L = [] := List.eq_nil_of_length_eq_zero (by omega)
    subst hL0
    refine ⟨?_, ht⟩
    rw [List.eq_nil_iff_forall_not_mem]
    intro k hk
    obtain ⟨hun, o, ho, _⟩ := mem_ready.1 hk
    have hks : k < ops.size := (Array.getElem?_eq_some_iff.1 ho).1
    have hkl : k < listed.size := by omega
    have : listed.getD k false = false := by simp [hkl] at hun ⊢; exact hun
    rcases (hli k hks).1 this with h | h
    · cases h
    · omega
  | succ n ih =>
    intro t m L listed a W hn hsz hrt hnd hL hls hli hch hmu hfl ht
    have hgt : ∀ k, k < ops.size → listed.getD k true = listed.getD k false := fun k hk => by
      have : k < listed.size := by omega
      simp [this]
    have hset : ∀ j k, j < ops.size → ((listed.setIfInBounds j true).getD k false = false ↔ k ≠ j ∧ listed.getD k false = false) := fun j k hj => by
      by_cases e : j = k
      · subst e
        have : j < listed.size := by omega
        simp [this]
      · rw [getD_set_ne false e]
        simp [Ne.symm e]
    refine ⟨fun hr0 => ?_, fun j hj => ?_⟩
    · exfalso
      cases L with
      | nil =>
        simp at hn
        have hts : t < ops.size := by omega
        have : t ∈ Region.ready md ops listed := mem_ready.2 ⟨by rw [hgt t hts]; exact (hli t hts).2 (.inr (Nat.le_refl _)), _, Array.getElem?_eq_getElem hts, fun e he hbd => by
          have hw : waits md ops t e.on = true := (waits_iff (Array.getElem?_eq_getElem hts)).2 ⟨e, he, hbd, rfl⟩
          have hlt := canon_lt hb hw
          cases hq : listed.getD e.on false with
          | true => rfl
          | false => rcases (hli _ (by omega)).1 hq with h | h
                     · cases h
                     · omega⟩
        rw [hr0] at this
        cases this
      | cons k L =>
        have hkr := hL k List.mem_cons_self
        have hks : k < ops.size := by omega
        have : k ∈ Region.ready md ops listed := mem_ready.2 ⟨by rw [hgt k hks]; exact (hli k hks).2 (.inl List.mem_cons_self), _, Array.getElem?_eq_getElem hks, fun e he hbd => by
          have hw : waits md ops k e.on = true := (waits_iff (Array.getElem?_eq_getElem hks)).2 ⟨e, he, hbd, rfl⟩
          have hlt := canon_lt hb hw
          cases hq : listed.getD e.on false with
          | true => rfl
          | false => rcases (hli _ (by omega)).1 hq with h | h
                     · rw [hmu k List.mem_cons_self _ h] at hw; cases hw
                     · omega⟩
        rw [hr0] at this
        cases this
    · obtain ⟨hun, o, ho, hafter⟩ := mem_ready.1 hj
      have hjs : j < ops.size := (Array.getElem?_eq_some_iff.1 ho).1
      rw [hgt j hjs] at hun
      have hdep : ∀ k, waits md ops j k = true → listed.getD k false = true := fun k hk => by
        obtain ⟨e, he, hbd, rfl⟩ := (waits_iff ho).1 hk
        exact hafter e he hbd
      rcases (hli j hjs).1 hun with hjL | hjt
      · obtain ⟨p, hp, hw, _, hrun⟩ := hfl j hjL
        rw [ho] at hp
        obtain rfl := Option.some.inj hp
        have hlen := List.length_erase_of_mem hjL
        have hpos := List.length_pos_of_mem hjL
        unfold wpOp
        simp only [ho]
        rw [if_pos hw]
        left
        unfold Oper.wp
        rw [hrun W]
        show wpAny P md ops Q n _ (a.put o.dst (val j)) W
        have e0 : dstOf ops j = o.dst := by simp [dstOf, ho]
        refine ih t m (L.erase j) _ _ W (by omega) hsz hrt (hnd.erase j) (fun k hk => hL k (List.mem_of_mem_erase hk)) (by simp [hls]) (fun k hk => ?_) hch (fun x hx y hy => hmu x (List.mem_of_mem_erase hx) y (List.mem_of_mem_erase hy)) (fun k hk => ?_) ?_
        · rw [hset j k hjs, hli k hk, hnd.mem_erase_iff]
          constructor
          · rintro ⟨h1, h2 | h2⟩
            · exact .inl ⟨h1, h2⟩
            · exact .inr h2
          · rintro (⟨h1, h2⟩ | h2)
            · exact ⟨h1, .inl h2⟩
            · exact ⟨by have := hL j hjL; omega, .inr h2⟩
        · rw [hnd.mem_erase_iff] at hk
          exact (hfl k hk.2).put ho (blind_of hb (by have := hL k hk.2; omega) hjs hk.1 (hmu k hk.2 j hjL) (hmu j hjL k hk.2)) _
        · have := aL_perm hd val (List.perm_cons_erase hjL) a
          rw [this] at ht
          show wpTail P ops (QN Q) t m (aL ops val (a.put o.dst (val j)) (L.erase j)) W
          rw [← e0]
          exact ht
      · have hjt' : j = t := by
          rcases Nat.eq_or_lt_of_le hjt with h | h
          · exact h.symm
          · exfalso
            have h1 := hch (j - 1 - t) (by omega)
            rw [show t + (j - 1 - t) + 1 = j by omega, show t + (j - 1 - t) = j - 1 by omega] at h1
            have h2 := hdep _ h1
            rw [(hli (j - 1) (by omega)).2 (.inr (by omega))] at h2
            cases h2
        subst hjt'
        obtain ⟨m, rfl⟩ : ∃ m', m = m' + 1 := ⟨m - 1, by omega⟩
        have hnot : ∀ k ∈ L, waits md ops j k = false := fun k hk => by
          cases hw : waits md ops j k with
          | false => rfl
          | true =>
            have h2 := hdep k hw
            rw [(hli k (by have := hL k hk; omega)).2 (.inl hk)] at h2
            cases h2
        have hnot2 : ∀ k ∈ L, waits md ops k j = false := fun k hk => by
          cases hw : waits md ops k j with
          | false => rfl
          | true => have := canon_lt hb hw; have := hL k hk; omega
        have hjL : j ∉ L := fun h => by have := hL j h; omega
        have hbl := blind_exec ho (fun cs b => hsel j o cs b ho) val L a fun k hk => blind_of hb hjs (by have := hL k hk; omega) (fun e => hjL (e ▸ hk)) (hnot k hk) (hnot2 k hk)
        have hnext : ∀ a' W', (∀ k ∈ L, Floats P ops val a' k) → wpTail P ops (QN Q) (j + 1) m (aL ops val a' L) W' → wpAny P md ops Q n (listed.setIfInBounds j true) a' W' := fun a' W' hf' ht' =>
          ih (j + 1) m L _ a' W' (by omega) (by omega) (by omega) hnd hL (by simp [hls]) (fun k hk => by
            rw [hset j k hjs, hli k hk]
            constructor
            · rintro ⟨h1, h2 | h2⟩
              · exact .inl h2
              · exact .inr (by omega)
            · rintro (h2 | h2)
              · exact ⟨fun e => hjL (e ▸ h2), .inl h2⟩
              · exact ⟨by omega, .inr (by omega)⟩) (fun k hk => by
            have := hch (k + 1) (by omega)
            rwa [show j + (k + 1) + 1 = j + 1 + k + 1 by omega, show j + (k + 1) = j + 1 + k by omega] at this) hmu hf' ht'
        have hfp : ∀ (a' : Act), (∀ k ∈ L, Floats P ops val a' k) → ∀ u, ∀ k ∈ L, Floats P ops val (a'.put o.dst u) k := fun a' hf' u k hk =>
          (hf' k hk).put ho (blind_of hb (by have := hL k hk; omega) hjs (fun e => hjL (e ▸ hk)) (hnot2 k hk) (hnot k hk)) u
        refine wpOp_late ho hbl.1 hbl.2 (fun u w' h => ?_) (fun d w' h => ?_) ht
        · rw [aL_out hd val ho u L hjL] at h
          exact hnext _ _ (hfp a hfl u) h
        · rw [(aL_defers val L a []).2, ← (aL_defers val L a _).1, aL_out hd val ho undef L hjL] at h
          exact hnext _ _ (hfp _ (fun k hk => by
            obtain ⟨p, hp, hw, hs, hr⟩ := hfl k hk
            exact ⟨p, hp, hw, hs, hr⟩) undef) h
/-- Does an operation make a variable? -/
def isAl (ops : Array Oper) (i : Nat) : Bool := match ops[i]? with
  | some o => o.guard.isNone && match o.op with
    | .alloc _ => true
    | _ => false
  | none => false
theorem isAl_pure {i : Nat} {o : Oper} (ho : ops[i]? = some o) (h : isAl ops i = true) : pureB o = false := by
  unfold isAl at h
  rw [ho] at h
  simp only [Bool.and_eq_true] at h
  unfold pureB
  split at h
  · rename_i e
    rw [e]
    simp
  · exact absurd h.2 (by simp)
/-- Variables that were made are apart. -/
def SepI (ops : Array Oper) (π : List Nat) (val : Nat → Value) (W : World) : Prop :=
  (∀ i ∈ π, isAl ops i = true → ∃ b, val i = .pointer (some ⟨b, 0, none⟩) ∧ b < W.heap.size) ∧ (∀ i ∈ π, ∀ j ∈ π, isAl ops i = true → isAl ops j = true → i ≠ j → val i ≠ val j)
theorem SepI.step {π : List Nat} {val : Nat → Value} {W W' : World} {j : Nat} {u : Value} (h : SepI ops π val W) (hj : j ∉ π) (g : Frm (fun _ => False) W W') (hA : isAl ops j = true → ∃ b, u = .pointer (some ⟨b, 0, none⟩) ∧ W.heap.size ≤ b ∧ b < W'.heap.size) : SepI ops (π ++ [j]) (updV val j u) W' := by
  have ne : ∀ i ∈ π, updV val j u i = val i := fun i hi => by
    unfold updV
    exact if_neg (fun e : i = j => hj (by rw [← e]; exact hi))
  have ej : updV val j u j = u := by unfold updV; rw [if_pos rfl]
  refine ⟨fun i hi ai => ?_, fun i hi k hk ai ak hik => ?_⟩
  · rcases List.mem_append.1 hi with h1 | h1
    · obtain ⟨b, e, hb⟩ := h.1 i h1 ai
      exact ⟨b, by rw [ne i h1, e], Nat.lt_of_lt_of_le hb g.size⟩
    · simp at h1
      subst h1
      obtain ⟨b, e, _, hb⟩ := hA ai
      exact ⟨b, by rw [ej, e], hb⟩
  · rcases List.mem_append.1 hi with h1 | h1 <;> rcases List.mem_append.1 hk with h2 | h2
    · rw [ne i h1, ne k h2]; exact h.2 i h1 k h2 ai ak hik
    · simp at h2
      subst h2
      obtain ⟨b, e, hb, _⟩ := hA ak
      obtain ⟨b2, e2, hb2⟩ := h.1 i h1 ai
      rw [ne i h1, ej, e, e2]
      intro e
      simp at e
    · simp at h1
      subst h1
      obtain ⟨b, e, hb, _⟩ := hA ai
      obtain ⟨b2, e2, hb2⟩ := h.1 k h2 ak
      rw [ne k h2, ej, e, e2]
      intro e
      simp at e
    · simp at h1 h2
      exact absurd (h1.trans h2.symm) hik
theorem OpOK.alS {i : Nat} {o : Oper} {a : Act} {W : World} {K : Value → World → Prop} (ho : ops[i]? = some o) (h : OpOK P ops o a W K) : OpOK P ops o a W fun u W' => K u W' ∧ (isAl ops i = true → ∃ b, u = .pointer (some ⟨b, 0, none⟩) ∧ W.heap.size ≤ b ∧ b < W'.heap.size) := by
  cases hal : isAl ops i with
  | false =>
    unfold OpOK at h ⊢
    rcases h with ⟨h1, h2⟩ | ⟨h1, h2⟩
    · refine .inl ⟨h1, ?_⟩
      generalize (execOp a.eval o).run P W = r at *
      cases r with
      | ok n w' =>
        cases n <;> simp only [StepK] at h2 ⊢
        case value u => exact ⟨h2, fun h => by cases h⟩
        case skip => exact ⟨h2, fun h => by cases h⟩
        case enter f args => exact Calls.mono h2 fun e w'' ⟨u, e1, e2⟩ => ⟨u, e1, e2, fun h => by cases h⟩
      | halt x w' => exact h2
    · exact .inr ⟨h1, h2, fun h => by cases h⟩
  | true =>
    unfold isAl at hal
    rw [ho] at hal
    simp only [Bool.and_eq_true, Option.isNone_iff_eq_none] at hal
    obtain ⟨hg, hop⟩ := hal
    have hw : Region.wanted o (yielded ops a.tmps) = true := by unfold Region.wanted; rw [hg]
    split at hop
    · rename_i T hT
      rcases h with ⟨_, h2⟩ | ⟨h1, _⟩
      · refine .inl ⟨hw, ?_⟩
        unfold execOp at h2 ⊢
        rw [hT] at h2 ⊢
        simp only at h2 ⊢
        simp only [Instr.alloc, newVar, Sem.run_bind] at h2 ⊢
        cases hz : (zeroValue T).run P W with
        | ok z w' =>
          have e := MapKept.run_zeroValue_world hz
          subst e
          simp [go_sem, newRow, StepK, hz] at h2 ⊢
          exact h2
        | halt x w' =>
          simp [hz, StepK] at h2
      · rw [hw] at h1; cases h1
    · cases hop
theorem rel_lateS {ms : List Nat} {Rs : List ((Nat → Value) → World → Prop)} {w0 : World} {a0 : Act} {r : Nat} (os : List (Oper × List Nat)) (hr : os.length = r) (hrn : r ≤ ops.size) (hos : ∀ t (h : t < os.length), ops[t]? = some os[t].1)
    (hsel : ∀ (j : Nat) (o : Oper) cs b, ops[j]? = some o → o.op ≠ .select cs b) (hb : canonB md ops = true) (hd : distB ops = true) (hm : msB md ops ms = true)
    (hD : ∀ t (h : t < os.length), ∀ d ∈ os[t].2, (mk ms t).testBit d = true ∧ d ≠ t ∧ d < ops.size)
    (Fl : List Nat) (hlate : ∀ j, r ≤ j → j < ops.size → ∀ p, p < r → p ∉ Fl → (mk ms j).testBit p = true)
    (hfw : ∀ j ∈ Fl, ∀ k ∈ Fl, waits md ops j k = false) (hfp : ∀ k ∈ Fl, ∀ o, ops[k]? = some o → pureB o = true)
    (hch : ∀ k, k + 1 < ops.size - r → waits md ops (r + k + 1) (r + k) = true)
    (hob : ∀ val, RelO P ops ms Rs w0 val 0 os a0)
    (hend : ∀ val W, Frm (fun _ => False) w0 W → (∀ i, i < r → Fact ms Rs i val W) → (∀ i j, i < r → j < r → isAl ops i = true → isAl ops j = true → i ≠ j → val i ≠ val j) → wpTail P ops (QN Q) r (ops.size - r) (aL ops val a0 (List.range r)) W) :
    ∀ (n : Nat) (π : List Nat) (listed : Array Bool) (val : Nat → Value) (W : World), π.length + n = r → π.Nodup → (∀ k ∈ π, k < r) → listed.size = ops.size → (∀ k, k < ops.size → (listed.getD k false = true ↔ k ∈ π)) → Closed md ops listed →
      Frm (fun _ => False) w0 W → (∀ i ∈ π, Fact ms Rs i val W) → SepI ops π val W → wpAny P md ops Q (n + (ops.size - r)) listed (aL ops val a0 π) W := by
  intro n
  -- all that do not float have come up: the rest by late_any
  have switch : ∀ (n : Nat) (π : List Nat) (listed : Array Bool) (val : Nat → Value) (W : World), π.length + n = r → π.Nodup → (∀ k ∈ π, k < r) → listed.size = ops.size → (∀ k, k < ops.size → (listed.getD k false = true ↔ k ∈ π)) → Closed md ops listed →
      Frm (fun _ => False) w0 W → (∀ i ∈ π, Fact ms Rs i val W) → SepI ops π val W → (∀ k, k < r → k ∉ Fl → k ∈ π) → wpAny P md ops Q (n + (ops.size - r)) listed (aL ops val a0 π) W := by
    intro n π listed val W hl hnd hlt hsz hli hcl hW hF hSe hall
    have hL : ∀ k, k ∈ (List.range r).filter (fun k => decide (k ∉ π)) ↔ k < r ∧ k ∉ π := fun k => by simp
    generalize hLd : (List.range r).filter (fun k => decide (k ∉ π)) = L at hL
    have hLn : L.Nodup := hLd ▸ List.nodup_range.filter _
    have hLF : ∀ k ∈ L, k ∈ Fl := fun k hk => Classical.byContradiction fun h => ((hL k).1 hk).2 (hall k ((hL k).1 hk).1 h)
    have hperm : (π ++ L).Perm (List.range r) := by
      refine (List.perm_ext_iff_of_nodup ?_ List.nodup_range).2 fun k => ?_
      · rw [List.nodup_append]
        exact ⟨hnd, hLn, fun x hx y hy e => ((hL y).1 hy).2 (e ▸ hx)⟩
      · rw [List.mem_append, List.mem_range, hL]
        constructor
        · rintro (h | h)
          · exact hlt k h
          · exact h.1
        · intro h
          by_cases hp : k ∈ π
          · exact .inl hp
          · exact .inr ⟨h, hp⟩
    have hlen : π.length + L.length = r := by
      have := hperm.length_eq
      simpa using this
    have hdepF : ∀ k ∈ L, ∀ q, waits md ops k q = true → q ∈ π := fun k hk q hq => by
      have := canon_lt hb hq
      have := ((hL k).1 hk).1
      refine hall q (by omega) fun h => ?_
      rw [hfw k (hLF k hk) q h] at hq
      cases hq
    have hpick : ∀ k, ∃ u, k ∈ L → Fact ms Rs k (updV val k u) W ∧ ∃ o, ops[k]? = some o ∧ Region.wanted o (yielded ops (aL ops val a0 π).tmps) = true ∧ ∀ W', (execOp (aL ops val a0 π).eval o).run P W' = .ok (.value u) W' := by
      intro k
      by_cases hk : k ∈ L
      · have hkr := ((hL k).1 hk).1
        have hks : k < ops.size := by omega
        have ho : ops[k]? = some ops[k] := Array.getElem?_eq_getElem hks
        have hdep : ∀ q, waits md ops k q = true → listed.getD q false = true := fun q hq => (hli q (by have := canon_lt hb hq; omega)).2 (hdepF k hk q hq)
        have hclo := ms_listed hb hm hcl k hks hdep
        have ho' := hos k (by omega)
        rw [ho] at ho'
        have hoe : ops[k] = (os[k]'(by omega)).1 := Option.some.inj ho'
        have hob' := relO_at os 0 a0 (hob val) (fun t h => by rw [Nat.zero_add]; exact hos t h) k (by omega) W hW (factsD_of _ fun d hd' => by
          obtain ⟨h1, h2, h3⟩ := hD k (by omega) d hd'
          rcases hclo d h3 h1 with h4 | h4
          · exact absurd h4 h2
          · exact hF d ((hli d h3).1 h4))
        rw [← hoe, Nat.zero_add, ← List.range_eq_range'] at hob'
        have hsame := same_act hb hd ho (fun cs b => hsel k _ cs b ho) val a0 π hnd (fun q hq => by have := hlt q hq; omega) ((hL k).1 hk).2 (hdepF k hk) (fun q hq => by
          cases hw : waits md ops q k with
          | false => rfl
          | true =>
            exfalso
            have hqs : q < ops.size := by have := hlt q hq; omega
            obtain ⟨e, he, hbd, he2⟩ := (waits_iff (Array.getElem?_eq_getElem hqs)).1 hw
            have := hcl q ((hli q hqs).2 hq) _ (Array.getElem?_eq_getElem hqs) e he hbd
            rw [he2] at this
            exact ((hL k).1 hk).2 ((hli k hks).1 this))
        have hpu := hfp k (hLF k hk) _ ho
        unfold OpOK at hob'
        rw [← hsame.1, ← hsame.2, pure_wanted hpu] at hob'
        rcases hob' with ⟨_, h⟩ | ⟨h, _⟩
        · obtain ⟨u, ⟨_, hFu⟩, hru⟩ := pure_ok hpu h
          exact ⟨u, fun _ => ⟨hFu, _, ho, pure_wanted hpu _, hru⟩⟩
        · cases h
      · exact ⟨undef, fun h => absurd h hk⟩
    obtain ⟨pick, hpick⟩ := Classical.skolem.1 hpick
    have ev : ∀ k, k ∉ L → (fun k => if k ∈ L then pick k else val k) k = val k := fun k hk => if_neg hk
    have ep : ∀ k, k ∈ L → (fun k => if k ∈ L then pick k else val k) k = pick k := fun k hk => if_pos hk
    generalize (fun k => if k ∈ L then pick k else val k) = val' at ev ep
    have ea : aL ops val a0 π = aL ops val' a0 π := aL_congr π a0 fun i hi => (ev i fun h => ((hL i).1 h).2 hi).symm
    have hbits : ∀ i, i < ops.size → (∀ q, waits md ops i q = true → listed.getD q false = true) → ∀ p ∈ L, p ≠ i → (mk ms i).testBit p = false := fun i hi hdep p hp hpi => by
      cases ht : (mk ms i).testBit p with
      | false => rfl
      | true =>
        exfalso
        have hpr := ((hL p).1 hp)
        rcases ms_listed hb hm hcl i hi hdep p (by omega) ht with h1 | h1
        · exact hpi h1
        · exact hpr.2 ((hli p (by omega)).1 h1)
    have hFv : ∀ i, i < r → Fact ms Rs i val' W := by
      intro i hi
      have his : i < ops.size := by omega
      by_cases hiL : i ∈ L
      · have hf := (hpick i hiL).1
        intro W'' g'
        have h := hf W'' g'
        have er : rs (mk ms i) val' = rs (mk ms i) (updV val i (pick i)) := by
          funext k
          unfold rs
          cases ht : (mk ms i).testBit k with
          | false => rfl
          | true =>
            show val' k = updV val i (pick i) k
            unfold updV
            by_cases e : k = i
            · subst e; rw [if_pos rfl, ep _ hiL]
            · rw [if_neg e]
              refine ev k fun hkL => ?_
              rw [hbits i his (fun q hq => (hli q (by have := canon_lt hb hq; omega)).2 (hdepF i hiL q hq)) k hkL e] at ht
              cases ht
        rw [er]
        exact h
      · have hip : i ∈ π := Classical.byContradiction fun h => hiL ((hL i).2 ⟨hi, h⟩)
        intro W'' g'
        have h := hF i hip W'' g'
        have er : rs (mk ms i) val' = rs (mk ms i) val := by
          funext k
          unfold rs
          cases ht : (mk ms i).testBit k with
          | false => rfl
          | true =>
            show val' k = val k
            refine ev k fun hkL => ?_
            rw [hbits i his (fun q hq => by
              obtain ⟨e, he, hbd, rfl⟩ := (waits_iff (Array.getElem?_eq_getElem his)).1 hq
              exact hcl i ((hli i his).2 hip) _ (Array.getElem?_eq_getElem his) e he hbd) k hkL (fun e => hiL (e ▸ hkL))] at ht
            cases ht
        rw [er]
        exact h
    have he := hend val' W hW hFv (fun i j hi hj ai aj hij => by
      have nl : ∀ i, i < r → isAl ops i = true → i ∉ L ∧ i ∈ π := fun i hi ai => by
        have h1 : i ∉ L := fun hiL => by
          have his : i < ops.size := by omega
          have := hfp i (hLF i hiL) _ (Array.getElem?_eq_getElem his)
          rw [isAl_pure (Array.getElem?_eq_getElem his) ai] at this
          cases this
        exact ⟨h1, Classical.byContradiction fun h => h1 ((hL i).2 ⟨hi, h⟩)⟩
      rw [ev i (nl i hi ai).1, ev j (nl j hj aj).1]
      exact hSe.2 i (nl i hi ai).2 j (nl j hj aj).2 ai aj hij)
    rw [← aL_perm hd val' hperm, aL_append] at he
    rw [ea]
    refine late_any hb hd hsel (r := r) val' (n + (ops.size - r)) r (ops.size - r) L listed _ W (by omega) (by omega) (Nat.le_refl _) hLn (fun k hk => ((hL k).1 hk).1) hsz (fun k hk => ?_) hch (fun x hx y hy => hfw x (hLF x hx) y (hLF y hy)) (fun k hk => ?_) he
    · rw [hL]
      have := hli k hk
      constructor
      · intro h
        rcases Nat.lt_or_ge k r with h1 | h1
        · refine .inl ⟨h1, fun h2 => ?_⟩
          rw [this.2 h2] at h; cases h
        · exact .inr h1
      · intro h
        cases hq : listed.getD k false with
        | false => rfl
        | true =>
          have hkp := this.1 hq
          rcases h with h | h
          · exact absurd hkp h.2
          · have := hlt k hkp; omega
    · obtain ⟨_, o, ho, hw, hr⟩ := hpick k hk
      rw [ea] at hw hr
      exact ⟨o, ho, hw, fun cs b => hsel k o cs b ho, fun W' => by rw [ep k hk]; exact hr W'⟩
  induction n with
  | zero =>
    intro π listed val W hl hnd hlt hsz hli hcl hW hF hSe
    refine switch 0 π listed val W hl hnd hlt hsz hli hcl hW hF hSe fun k hk _ => ?_
    refine Classical.byContradiction fun hkn => ?_
    have := sub_len (k :: π) (List.range r) (List.nodup_cons.2 ⟨hkn, hnd⟩) fun x hx => by
      rcases List.mem_cons.1 hx with h | h
      · subst h; exact List.mem_range.2 hk
      · exact List.mem_range.2 (hlt x h)
    simp at this
    omega
  | succ n ih =>
    intro π listed val W hl hnd hlt hsz hli hcl hW hF hSe
    by_cases hH : ∀ k, k < r → k ∉ Fl → k ∈ π
    · exact switch (n + 1) π listed val W hl hnd hlt hsz hli hcl hW hF hSe hH
    have hunl : ∃ k, k < r ∧ k ∉ Fl ∧ k ∉ π := Classical.byContradiction fun hno => hH fun k h1 h2 => Classical.byContradiction fun h3 => hno ⟨k, h1, h2, h3⟩
    have hfuel : n + 1 + (ops.size - r) = (n + (ops.size - r)) + 1 := by omega
    rw [hfuel]
    have hgt : ∀ k, k < ops.size → listed.getD k true = listed.getD k false := fun k hk => by
      have : k < listed.size := by omega
      simp [this]
    refine ⟨fun hr0 => ?_, fun j hj => ?_⟩
    · exfalso
      -- the least one that has not come up is ready
      obtain ⟨k, hk, hx, hkn⟩ := hunl
      clear hx
      induction k using Nat.strongRecOn with
      | _ k ihk =>
        by_cases hall : ∀ q, waits md ops k q = true → q ∈ π
        · have ho : ops[k]? = some ops[k] := Array.getElem?_eq_getElem (by omega)
          have : k ∈ Region.ready md ops listed := mem_ready.2 ⟨by
            rw [hgt k (by omega)]
            cases hq : listed.getD k false with
            | false => rfl
            | true => exact absurd ((hli k (by omega)).1 hq) hkn, _, ho, fun e he hbd => by
              have hw : waits md ops k e.on = true := (waits_iff ho).2 ⟨e, he, hbd, rfl⟩
              have := canon_lt hb hw
              exact (hli _ (by omega)).2 (hall _ hw)⟩
          rw [hr0] at this
          cases this
        · have : ∃ q, waits md ops k q = true ∧ q ∉ π := Classical.byContradiction fun h => hall fun q hq => Classical.byContradiction fun h2 => h ⟨q, hq, h2⟩
          obtain ⟨q, hq, hqn⟩ := this
          have := canon_lt hb hq
          exact ihk q this (by omega) hqn
    · obtain ⟨hun, o, ho, hafter⟩ := mem_ready.1 hj
      have hjs : j < ops.size := (Array.getElem?_eq_some_iff.1 ho).1
      have hjn : j ∉ π := fun h => by
        rw [hgt j hjs, (hli j hjs).2 h] at hun; cases hun
      have hdep : ∀ k, waits md ops j k = true → listed.getD k false = true := fun k hk => by
        obtain ⟨e, he, hbd, rfl⟩ := (waits_iff ho).1 hk
        exact hafter e he hbd
      have hclo := ms_listed hb hm hcl j hjs hdep
      have hjr : j < r := by
        rcases Nat.lt_or_ge j r with h | h
        · exact h
        · exfalso
          obtain ⟨k, hk, hkF, hkn⟩ := hunl
          rcases hclo k (by omega) (hlate j h hjs k hk hkF) with h1 | h1
          · omega
          · exact hkn ((hli k (by omega)).1 h1)
      have ho' := hos j (by omega)
      rw [ho] at ho'
      have hoe : o = (os[j]'(by omega)).1 := Option.some.inj ho'
      have hob' := relO_at os 0 a0 (hob val) (fun t h => by rw [Nat.zero_add]; exact hos t h) j (by omega) W hW (factsD_of _ fun d hd' => by
        obtain ⟨h1, h2, h3⟩ := hD j (by omega) d hd'
        rcases hclo d h3 h1 with h4 | h4
        · exact absurd h4 h2
        · exact hF d ((hli d h3).1 h4))
      rw [← hoe, Nat.zero_add, ← List.range_eq_range'] at hob'
      have hsame := same_act hb hd ho (fun cs b => hsel j o cs b ho) val a0 π hnd (fun k hk => by have := hlt k hk; omega) hjn (fun k hk => (hli k (by have := canon_lt hb hk; omega)).1 (hdep k hk)) (fun k hk => by
        cases hw : waits md ops k j with
        | false => rfl
        | true =>
          exfalso
          have hks : k < ops.size := by have := hlt k hk; omega
          obtain ⟨e, he, hbd, he2⟩ := (waits_iff (Array.getElem?_eq_getElem hks)).1 hw
          have := hcl k ((hli k hks).2 hk) _ (Array.getElem?_eq_getElem hks) e he hbd
          rw [he2] at this
          exact hjn ((hli j hjs).1 this))
      have hok : OpOK P ops o (aL ops val a0 π) W fun u W' => Frm (fun _ => False) W W' ∧ Fact ms Rs j (updV val j u) W' := by
        unfold OpOK at hob' ⊢
        rw [hsame.1, hsame.2]
        exact hob'
      refine (hok.alS ho).wpOp ho fun u W' hK => ?_
      obtain ⟨⟨g, hR⟩, hAl⟩ := hK
      have ea : (aL ops val a0 π).put o.dst u = aL ops (updV val j u) a0 (π ++ [j]) := by
        rw [aL_append]
        have e1 : aL ops (updV val j u) a0 π = aL ops val a0 π := aL_congr π a0 fun i hi => by
          unfold updV; rw [if_neg (fun e => hjn (by rw [← e]; exact hi))]
        rw [e1]
        show _ = (aL ops val a0 π).put (dstOf ops j) (updV val j u j)
        simp [dstOf, ho, updV]
      rw [ea]
      refine ih (π ++ [j]) _ _ W' (by simp; omega) ?_ (fun k hk => ?_) (by simp [hsz]) (fun k hk => ?_) (hcl.set fun o' ho' => by rw [ho] at ho'; cases ho'; exact hafter) (hW.trans g) (fun i hi => ?_) (hSe.step hjn g hAl)
      · rw [List.nodup_append]
        exact ⟨hnd, by simp, fun x hx y hy => by simp at hy; subst hy; exact fun e => hjn (e ▸ hx)⟩
      · rcases List.mem_append.1 hk with h | h
        · exact hlt k h
        · simp at h; omega
      · by_cases e : j = k
        · subst e
          have : j < listed.size := by omega
          simp [this]
        · rw [getD_set_ne false e, hli k hk]
          simp [Ne.symm e]
      · rcases List.mem_append.1 hi with h | h
        · have hi' := hF i h
          have hij : i ≠ j := fun e => hjn (e ▸ h)
          have hbit : (mk ms i).testBit j = false := by
            cases ht : (mk ms i).testBit j with
            | false => rfl
            | true =>
              exfalso
              have his : i < ops.size := by have := hlt i h; omega
              rcases ms_listed hb hm hcl i his (fun k hk => by
                obtain ⟨e, he, hbd, rfl⟩ := (waits_iff (Array.getElem?_eq_getElem his)).1 hk
                exact hcl i ((hli i his).2 h) _ (Array.getElem?_eq_getElem his) e he hbd) j hjs ht with h1 | h1
              · exact hij h1.symm
              · exact hjn ((hli j hjs).1 h1)
          intro W'' g'
          have := hi' W'' (g.trans g')
          rw [rs_upd val u hbit]
          exact this
        · simp at h; subst h; exact hR

def chkF (n r : Nat) (Fl ms : List Nat) : Bool := (List.range' r (n - r)).all fun j => (List.range r).all fun p => Fl.contains p || (mk ms j).testBit p
def chkFw (md : Region.Mode) (ops : Array Oper) (Fl : List Nat) : Bool := Fl.all fun j => ((ops[j]?).map pureB).getD false && Fl.all fun k => !waits md ops j k
theorem any_lateS {a : Act} {w : World} (r m : Nat) (Fl : List Nat) (Ds : List (List Nat)) (ms : List Nat) (Rs : List ((Nat → Value) → World → Prop)) {os' os ts : List Oper} (hos' : ops = os'.toArray) (hsp : splitN r os' = some (os, ts)) (hsz : ops.size = r + m)
    (hn : Region.noSelect ops = true) (hb : canonB .any ops = true) (hd : distB ops = true) (hms : msB .any ops ms = true) (hDl : Ds.length = r) (hDs : chkD ops.size ms 0 Ds = true) (hL : chkF ops.size r Fl ms = true) (hFw : chkFw .any ops Fl = true) (hC : chkC .any ops r m = true)
    (hob : ∀ val, RelO P ops ms Rs w.drew val 0 (os.zip Ds) a)
    (hend : ∀ val W, Frm (fun _ => False) w.drew W → FactsD ms Rs val W (List.range r) → (∀ i j, i < r → j < r → isAl ops i = true → isAl ops j = true → i ≠ j → val i ≠ val j) → wpTail P ops (QN Q) r m (aO val a os 0) W) : wpAny P .any ops Q ops.size (Array.replicate ops.size false) a w.drew := by
  obtain ⟨h1, h2⟩ := splitN_eq _ _ _ _ hsp
  have hopt : ∀ t (h : t < os.length), ops[t]? = some os[t] := fun t h => by
    subst hos'
    simp [h1, List.getElem?_append, h]
  have hlen : (os.zip Ds).length = r := by simp [h2, hDl]
  have hall := rel_lateS (Q := Q) (ms := ms) (Rs := Rs) (w0 := w.drew) (a0 := a) (r := r) (os.zip Ds) hlen (by omega) (fun t h => by
      simp only [List.getElem_zip]
      exact hopt t (by omega)) (Region.noSelect_spec hn) hb hd hms
    (fun t h d hd => by
      simp only [List.getElem_zip] at hd
      have := chkD_at Ds 0 hDs t (by omega) d hd
      rwa [Nat.zero_add] at this)
    Fl (fun j hj hjs p hp hpF => by
      simp only [chkF, List.all_eq_true, List.mem_range, List.mem_range'_1, Bool.or_eq_true, List.contains_iff_mem] at hL
      exact (hL j ⟨hj, by omega⟩ p hp).resolve_left hpF)
    (fun j hj k hk => by
      simp only [chkFw, List.all_eq_true, Bool.and_eq_true, Bool.not_eq_true'] at hFw
      exact (hFw j hj).2 k hk)
    (fun k hk o ho => by
      simp only [chkFw, List.all_eq_true, Bool.and_eq_true] at hFw
      have h := (hFw k hk).1
      rw [ho] at h
      exact h)
    (fun k hk => by
      simp only [chkC, List.all_eq_true, List.mem_range] at hC
      exact hC k (by omega)) hob
    (fun val W hW hF hS => by
      have e1 : List.range r = List.range' 0 os.length := by rw [h2, List.range_eq_range']
      rw [e1, aL_aO val os 0 a (fun t h => by rw [Nat.zero_add]; exact hopt t h)]
      have e2 : ops.size - r = m := by omega
      rw [e2]
      exact hend val W hW (factsD_of _ fun d hd => hF d (List.mem_range.1 hd)) hS)
    r [] (Array.replicate ops.size false) (fun _ => undef) w.drew (by simp) (by simp) (by simp) (by simp) (fun k hk => by simp [hk]) (Closed.start _ _) (Frm.refl _ _) (by simp) ⟨by simp, by simp⟩
  have e3 : r + (ops.size - r) = ops.size := by omega
  rw [e3] at hall
  exact hall
theorem any_late {a : Act} {w : World} (r m : Nat) (Fl : List Nat) (Ds : List (List Nat)) (ms : List Nat) (Rs : List ((Nat → Value) → World → Prop)) {os' os ts : List Oper} (hos' : ops = os'.toArray) (hsp : splitN r os' = some (os, ts)) (hsz : ops.size = r + m)
    (hn : Region.noSelect ops = true) (hb : canonB .any ops = true) (hd : distB ops = true) (hms : msB .any ops ms = true) (hDl : Ds.length = r) (hDs : chkD ops.size ms 0 Ds = true) (hL : chkF ops.size r Fl ms = true) (hFw : chkFw .any ops Fl = true) (hC : chkC .any ops r m = true)
    (hob : ∀ val, RelO P ops ms Rs w.drew val 0 (os.zip Ds) a)
    (hend : ∀ val W, Frm (fun _ => False) w.drew W → FactsD ms Rs val W (List.range r) → wpTail P ops (QN Q) r m (aO val a os 0) W) : wpAny P .any ops Q ops.size (Array.replicate ops.size false) a w.drew :=
  any_lateS r m Fl Ds ms Rs hos' hsp hsz hn hb hd hms hDl hDs hL hFw hC hob (fun val W h1 h2 _ => hend val W h1 h2)
/-- The same, where variables that are made are to be told apart. -/
theorem wp_region_lateS {id : Nat} {a : Act} {w : World} (r m : Nat) (Fl : List Nat) (Ds : List (List Nat)) (ms : List Nat) (Rs : List ((Nat → Value) → World → Prop)) {os' os ts : List Oper} (hm : P.follows .mixedOrders = true) (hos' : ops = os'.toArray) (hsp : splitN r os' = some (os, ts)) (hsz : ops.size = r + m)
    (hn : Region.noSelect ops = true) (hb : canonB .any ops = true) (hd : distB ops = true) (hms : msB .any ops ms = true) (hDl : Ds.length = r) (hDs : chkD ops.size ms 0 Ds = true) (hL : chkF ops.size r Fl ms = true) (hFw : chkFw .any ops Fl = true) (hC : chkC .any ops r m = true)
    (hob : ∀ val, RelO P ops ms Rs w.drew val 0 (os.zip Ds) a)
    (hend : ∀ val W, Frm (fun _ => False) w.drew W → FactsD ms Rs val W (List.range r) → (∀ i j, i < r → j < r → isAl ops i = true → isAl ops j = true → i ≠ j → val i ≠ val j) → wpTail P ops (QN Q) r m (aO val a os 0) W) : (Code.region id ops true).wp P Q a w :=
  wp_region_any hm (any_lateS r m Fl Ds ms Rs hos' hsp hsz hn hb hd hms hDl hDs hL hFw hC hob hend)
theorem wp_region_late {id : Nat} {a : Act} {w : World} (r m : Nat) (Fl : List Nat) (Ds : List (List Nat)) (ms : List Nat) (Rs : List ((Nat → Value) → World → Prop)) {os' os ts : List Oper} (hm : P.follows .mixedOrders = true) (hos' : ops = os'.toArray) (hsp : splitN r os' = some (os, ts)) (hsz : ops.size = r + m)
    (hn : Region.noSelect ops = true) (hb : canonB .any ops = true) (hd : distB ops = true) (hms : msB .any ops ms = true) (hDl : Ds.length = r) (hDs : chkD ops.size ms 0 Ds = true) (hL : chkF ops.size r Fl ms = true) (hFw : chkFw .any ops Fl = true) (hC : chkC .any ops r m = true)
    (hob : ∀ val, RelO P ops ms Rs w.drew val 0 (os.zip Ds) a)
    (hend : ∀ val W, Frm (fun _ => False) w.drew W → FactsD ms Rs val W (List.range r) → wpTail P ops (QN Q) r m (aO val a os 0) W) : (Code.region id ops true).wp P Q a w :=
  wp_region_any hm (any_late r m Fl Ds ms Rs hos' hsp hsz hn hb hd hms hDl hDs hL hFw hC hob hend)

theorem OpOK.load {ms : List Nat} {Rs : List ((Nat → Value) → World → Prop)} {val : Nat → Value} {k : Nat} {o : Oper} {a : Act} {W : World} {p v : Value} {t : TypeId} (hw : Region.wanted o (yielded ops a.tmps) = true) (x : Operand) (ho : o.op = .load t x) (hx : a.eval x = p)
    (h : (Instr.loadAt t p).run P W = .ok v W) (hR : Fact ms Rs k (updV val k v) W) : OpOK P ops o a W fun u W' => Frm (fun _ => False) W W' ∧ Fact ms Rs k (updV val k u) W' :=
  OpOK.val hw (by
    unfold execOp
    simp only [ho, hx, Sem.run_bind, h, Result.andThen_ok, Sem.run_pure]) hR
theorem wpTail.assign {r m : Nat} {a : Act} {w : World} {o : Oper} {x : Operand} {d : Tmp} {v : Value} (hi : ops[r]? = some o) (hg : o.guard = none) (hd : o.dst = some d) (ho : o.op = .assign x) (hx : a.eval x = v) (h : wpTail P ops Q (r + 1) m (a.put (some d) v) w) : wpTail P ops Q r (m + 1) a w := by
  refine wpTail.cons hi hg fun K hK => ?_
  unfold Oper.wp execOp
  simp only [ho, hx]
  refine hK _ _ ?_
  rw [hd]
  exact h
theorem wpTail.doneN {r : Nat} {a : Act} {w : World} (h : Q .normal a w) : wpTail P ops (QN Q) r 0 a w := h
theorem RelO.next {ms : List Nat} {Rs : List ((Nat → Value) → World → Prop)} {w0 : World} {val : Nat → Value} {k k' : Nat} {o : Oper} {os : List Oper} {D : List Nat} {Ds : List (List Nat)} {a : Act} (hk : k' = k + 1)
    (h1 : ∀ W, Frm (fun _ => False) w0 W → FactsD ms Rs val W D → OpOK P ops o a W fun u W' => Frm (fun _ => False) W W' ∧ Fact ms Rs k (updV val k u) W') (h2 : RelO P ops ms Rs w0 val k' (List.zip os Ds) (a.put o.dst (val k))) :
    RelO P ops ms Rs w0 val k (List.zip (o :: os) (D :: Ds)) a := by
  subst hk
  exact ⟨h1, h2⟩
end
end Go.Proofs.Ytdhnidmeeocajaa
