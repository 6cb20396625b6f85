/- As Late: operations that only read (not waiting for each other) may come up late among the stores at the end, where these leave what they read. Of no program. No condition. -/
import Derived.Test.YtdhnidmeeocajaaGreatLate
section
namespace Go.Proofs.YtdhnidmeeocajaaGreat
open Go.RowKit

section
variable {P : Program} {ops : Array Oper} {Q : Exit → Act → World → Prop} {md : Region.Mode} {S : World → Prop}
/-- m operations from the r-th one on, one behind the other, each of which leaves a world that meets S. -/
def wpTailS (P : Program) (ops : Array Oper) (Q : Exit → Act → World → Prop) (S : World → Prop) : Nat → Nat → Act → World → Prop
  | _, 0, a, w => Q .normal a w
  | r, m + 1, a, w => wpOp P ops Q r (fun a w => S w ∧ wpTailS P ops Q S (r + 1) m a w) a w
theorem wpTailS.cons {r m : Nat} {a : Act} {w : World} {o : Oper} (hi : ops[r]? = some o) (hg : o.guard = none) (h : ∀ K : Act → World → Prop, (∀ a w, S w → wpTailS P ops Q S (r + 1) m a w → K a w) → o.wp P a w K Q) : wpTailS P ops Q S r (m + 1) a w := by
  show wpOp P ops Q r _ a w
  unfold wpOp
  simp only [hi]
  rw [if_pos (by unfold Region.wanted; rw [hg])]
  exact .inl (h _ fun a w h1 h2 => ⟨h1, h2⟩)
theorem wpTailS.done {r : Nat} {a : Act} {w : World} (h : Q .normal a w) : wpTailS P ops (QN Q) S r 0 a w := h
/-- Operation k would answer val k at a, in each world that meets S. -/
def FloatW (P : Program) (ops : Array Oper) (S : World → Prop) (val : Nat → Value) (a : Act) (k : Nat) : Prop := ∃ o, ops[k]? = some o ∧ Region.wanted o (yielded ops a.tmps) = true ∧ (∀ cs b, o.op ≠ .select cs b) ∧ ∀ W, S W → (execOp a.eval o).run P W = .ok (.value (val k)) W
theorem FloatW.put {val : Nat → Value} {a : Act} {k j : Nat} {o : Oper} (h : FloatW P ops S val a k) (hj : ops[j]? = some o) (hbl : blind ops k j) (u : Value) : FloatW P ops S val (a.put o.dst u) k := by
  obtain ⟨p, hp, hw, hs, hr⟩ := h
  have hb := hbl p hp
  have hdd : ∀ d, o.dst = some d → d ∉ p.looksAt ops := fun d hd => hb d (by simp [dstOf, hj, hd])
  refine ⟨p, hp, ?_, hs, fun W hW => ?_⟩
  · rw [wanted_put p a _ _ hdd]; exact hw
  · rw [execOp_put p hs a _ _ hdd]; exact hr W hW
end
end Go.Proofs.YtdhnidmeeocajaaGreat
end
section
namespace Go.Proofs.YtdhnidmeeocajaaGreat
open Go.RowKit

section
variable {P : Program} {ops : Array Oper} {Q : Exit → Act → World → Prop} {md : Region.Mode} {S : World → Prop}
/-- The operations M, in each order that their waiting for each other leaves open; each leaves a world that meets S. -/
def wpFree (P : Program) (md : Region.Mode) (ops : Array Oper) (Q : Exit → Act → World → Prop) (S : World → Prop) : Nat → List Nat → Act → World → Prop
  | 0, _, a, w => Q .normal a w
  | n + 1, M, a, w => ∀ j ∈ M, (∀ k ∈ M, waits md ops j k = false) → wpOp P ops Q j (fun a w => S w ∧ wpFree P md ops Q S n (M.erase j) a w) a w
theorem least {p : Nat → Prop} : ∀ n, p n → ∃ k, p k ∧ ∀ j, j < k → ¬ p j := by
  intro n
  induction n using Nat.strongRecOn with
  | _ n ih =>
    intro h
    by_cases hj : ∃ j, j < n ∧ p j
    · obtain ⟨j, h1, h2⟩ := hj
      exact ih j h1 h2
    · exact ⟨n, h, fun j h1 h2 => hj ⟨j, h1, h2⟩⟩
theorem free_any (hb : canonB md ops = true) (hd : distB ops = true) (hsel : ∀ (j : Nat) (o : Oper) cs b, ops[j]? = some o → o.op ≠ .select cs b) (val : Nat → Value) :
    ∀ (n : Nat) (M L : List Nat) (listed : Array Bool) (a : Act) (W : World), M.length + L.length = n → M.Nodup → L.Nodup → (∀ k ∈ L, k ∉ M) → listed.size = ops.size → (∀ k, k < ops.size → (listed.getD k false = false ↔ k ∈ L ∨ k ∈ M)) → (∀ k, k ∈ L ∨ k ∈ M → k < ops.size) →
      (∀ j ∈ L, ∀ k ∈ M, waits md ops j k = false) → (∀ k ∈ L, FloatW P ops S val (aL ops val a (L.filter (decide <| · < k))) k) → S W → wpFree P md ops (QN Q) S M.length M (aL ops val a L) W → wpAny P md ops Q n listed a W := by
  intro n
  induction n with
  | zero =>
    intro M L listed a W hn _ _ _ hls hli hsz _ _ _ ht
    obtain rfl : M = [] := List.eq_nil_of_length_eq_zero (by omega)
    obtain rfl : L = [] := List.eq_nil_of_length_eq_zero (by omega)
    refine ⟨?_, ht⟩
    rw [List.eq_nil_iff_forall_not_mem]
    intro k hk
    obtain ⟨hun, o, ho, _⟩ := mem_ready.1 hk
    have hks : k < ops.size := (Array.getElem?_eq_some_iff.1 ho).1
    have hkl : k < listed.size := by omega
    have : listed.getD k false = false := by simp [hkl] at hun ⊢; exact hun
    rcases (hli k hks).1 this with h | h <;> cases h
  | succ n ih =>
    intro M L listed a W hn hnM hnL hLM hls hli hsz hw hfl hS ht
    have hgt : ∀ k, k < ops.size → listed.getD k true = listed.getD k false := fun k hk => by
      have : k < listed.size := by omega
      simp [this]
    have hset : ∀ j k, j < ops.size → ((listed.setIfInBounds j true).getD k false = false ↔ k ≠ j ∧ listed.getD k false = false) := fun j k hj => by
      by_cases e : j = k
      · subst e
        have : j < listed.size := by omega
        simp [this]
      · rw [getD_set_ne false e]
        simp [Ne.symm e]
    refine ⟨fun hr0 => ?_, fun j hj => ?_⟩
    · obtain ⟨k0, hk0⟩ : ∃ k, k ∈ L ∨ k ∈ M := by
        cases L with
        | cons k _ => exact ⟨k, .inl List.mem_cons_self⟩
        | nil =>
          cases M with
          | cons k _ => exact ⟨k, .inr List.mem_cons_self⟩
          | nil => simp at hn
      obtain ⟨k, hk, hmin⟩ := least (p := fun k => k ∈ L ∨ k ∈ M) k0 hk0
      have hks := hsz k hk
      have : k ∈ Region.ready md ops listed := mem_ready.2 ⟨by rw [hgt k hks]; exact (hli k hks).2 hk, _, Array.getElem?_eq_getElem hks, fun e he hbd => by
        have hwt : waits md ops k e.on = true := (waits_iff (Array.getElem?_eq_getElem hks)).2 ⟨e, he, hbd, rfl⟩
        have hlt := canon_lt hb hwt
        cases hq : listed.getD e.on false with
        | true => rfl
        | false => exact absurd ((hli _ (by omega)).1 hq) (hmin _ hlt)⟩
      rw [hr0] at this
      cases this
    · obtain ⟨hun, o, ho, hafter⟩ := mem_ready.1 hj
      have hjs : j < ops.size := (Array.getElem?_eq_some_iff.1 ho).1
      rw [hgt j hjs] at hun
      have hdep : ∀ k, k ∈ L ∨ k ∈ M → waits md ops j k = false := fun k hk => by
        cases hwt : waits md ops j k with
        | false => rfl
        | true =>
          obtain ⟨e, he, hbd, rfl⟩ := (waits_iff ho).1 hwt
          have h1 := hafter e he hbd
          rw [(hli _ (hsz _ hk)).2 hk] at h1
          cases h1
      rcases (hli j hjs).1 hun with hjL | hjM
      · -- an operation that reads
        have hF0 := hfl j hjL
        have hbl := blind_exec ho (fun cs b => hsel j o cs b ho) val (L.filter (decide <| · < j)) a fun k hk => by
          obtain ⟨h1, h2⟩ := List.mem_filter.1 hk
          have h2 : k < j := of_decide_eq_true h2
          refine blind_of hb hjs (by omega) (by omega) (hdep k (.inl h1)) ?_
          cases hwt : waits md ops k j with
          | false => rfl
          | true => have := canon_lt hb hwt; omega
        obtain ⟨p, hp, hwn, _, hrun⟩ := hF0
        rw [ho] at hp
        obtain rfl := Option.some.inj hp
        rw [hbl.2] at hwn
        rw [hbl.1] at hrun
        have hlen := List.length_erase_of_mem hjL
        have hpos := List.length_pos_of_mem hjL
        unfold wpOp
        simp only [ho]
        rw [if_pos hwn]
        left
        unfold Oper.wp
        rw [hrun W hS]
        show wpAny P md ops Q n _ (a.put o.dst (val j)) W
        have e0 : dstOf ops j = o.dst := by simp [dstOf, ho]
        refine ih M (L.erase j) _ _ W (by omega) hnM (hnL.erase j) (fun k hk => hLM k (List.mem_of_mem_erase hk)) (by simp [hls]) (fun k hk => ?_) (fun k hk => hsz k (hk.imp List.mem_of_mem_erase id)) (fun x hx => hw x (List.mem_of_mem_erase hx)) (fun k hk => ?_) hS ?_
        · rw [hset j k hjs, hli k hk, hnL.mem_erase_iff]
          constructor
          · rintro ⟨h1, h2 | h2⟩
            · exact .inl ⟨h1, h2⟩
            · exact .inr h2
          · rintro (⟨h1, h2⟩ | h2)
            · exact ⟨h1, .inl h2⟩
            · exact ⟨fun e => hLM j hjL (e ▸ h2), .inr h2⟩
        · rw [hnL.mem_erase_iff] at hk
          obtain ⟨hkj, hkL⟩ := hk
          have hF := hfl k hkL
          by_cases hlt : j < k
          · have hperm : (L.filter (decide <| · < k)).Perm (j :: (L.erase j).filter (decide <| · < k)) := by
              have h1 := (List.perm_cons_erase hjL).filter (decide <| · < k)
              rwa [List.filter_cons_of_pos (by simpa using hlt)] at h1
            rw [aL_perm hd val hperm a] at hF
            have hF : FloatW P ops S val (aL ops val (a.put (dstOf ops j) (val j)) ((L.erase j).filter (decide <| · < k))) k := hF
            rwa [e0] at hF
          · have heq : L.filter (decide <| · < k) = (L.erase j).filter (decide <| · < k) := by
              rw [hnL.erase_eq_filter, List.filter_filter]
              refine List.filter_congr fun x _ => ?_
              by_cases hx : x < k
              · have : x ≠ j := by omega
                simp [hx, this]
              · simp [hx]
            rw [heq] at hF
            rw [← aL_out hd val ho (val j) _ (fun h => by have := List.mem_filter.1 h; have := (hnL.mem_erase_iff.1 this.1).1; exact this rfl) a]
            refine hF.put ho (blind_of hb (hsz k (.inl hkL)) hjs hkj ?_ (hdep k (.inl hkL))) _
            cases hwt : waits md ops k j with
            | false => rfl
            | true => have := canon_lt hb hwt; omega
        · have := aL_perm hd val (List.perm_cons_erase hjL) a
          rw [this] at ht
          show wpFree P md ops (QN Q) S M.length M (aL ops val (a.put o.dst (val j)) (L.erase j)) W
          rw [← e0]
          exact ht
      · -- one that writes
        have hjL : j ∉ L := fun h => hLM j h hjM
        obtain ⟨m, hm⟩ : ∃ m, M.length = m + 1 := ⟨M.length - 1, by have := List.length_pos_of_mem hjM; omega⟩
        rw [hm] at ht
        have hop := ht j hjM (fun k hk => hdep k (.inr hk))
        have hlen := List.length_erase_of_mem hjM
        have hml : m = (M.erase j).length := by omega
        have hbl := blind_exec ho (fun cs b => hsel j o cs b ho) val L a fun k hk => blind_of hb hjs (hsz k (.inl hk)) (fun e => hjL (e ▸ hk)) (hdep k (.inl hk)) (hw k hk j hjM)
        have hnext : ∀ a' W', (∀ k ∈ L, FloatW P ops S val (aL ops val a' (L.filter (decide <| · < k))) k) → S W' → wpFree P md ops (QN Q) S m (M.erase j) (aL ops val a' L) W' → wpAny P md ops Q n (listed.setIfInBounds j true) a' W' := fun a' W' hf' hS' ht' =>
          ih (M.erase j) L _ a' W' (by omega) (hnM.erase j) hnL (fun k hk h => hLM k hk (List.mem_of_mem_erase h)) (by simp [hls]) (fun k hk => by
            rw [hset j k hjs, hli k hk, hnM.mem_erase_iff]
            constructor
            · rintro ⟨h1, h2 | h2⟩
              · exact .inl h2
              · exact .inr ⟨h1, h2⟩
            · rintro (h2 | ⟨h1, h2⟩)
              · exact ⟨fun e => hjL (e ▸ h2), .inl h2⟩
              · exact ⟨h1, .inr h2⟩) (fun k hk => hsz k (hk.imp id List.mem_of_mem_erase)) (fun x hx k hk => hw x hx k (List.mem_of_mem_erase hk)) hf' hS' (by rw [← hml]; exact ht')
        have hfp : ∀ u, ∀ k ∈ L, FloatW P ops S val (aL ops val (a.put o.dst u) (L.filter (decide <| · < k))) k := fun u k hk => by
          rw [← aL_out hd val ho u _ (fun h => hjL (List.mem_filter.1 h).1) a]
          exact (hfl k hk).put ho (blind_of hb (hsz k (.inl hk)) hjs (fun e => hjL (e ▸ hk)) (hw k hk j hjM) (hdep k (.inl hk))) u
        refine wpOp_late ho hbl.1 hbl.2 (fun u w' h => ?_) (fun d w' h => ?_) hop
        · rw [aL_out hd val ho u L hjL] at h
          exact hnext _ _ (hfp u) h.1 h.2
        · rw [(aL_defers val L a []).2, ← (aL_defers val L a _).1, aL_out hd val ho undef L hjL] at h
          refine hnext _ _ (fun k hk => ?_) h.1 h.2
          obtain ⟨p, hp, hwn, hs, hr⟩ := hfp undef k hk
          refine ⟨p, hp, ?_, hs, fun W hW => ?_⟩
          · have e1 := (aL_defers (ops := ops) val (L.filter (decide <| · < k)) (a.put o.dst undef) (d :: a.defers)).1
            have e2 : (({ a with defers := d :: a.defers } : Act).put o.dst undef) = { a.put o.dst undef with defers := d :: a.defers } := by cases o.dst <;> rfl
            rw [e2, e1]
            exact hwn
          · have e1 := (aL_defers (ops := ops) val (L.filter (decide <| · < k)) (a.put o.dst undef) (d :: a.defers)).1
            have e2 : (({ a with defers := d :: a.defers } : Act).put o.dst undef) = { a.put o.dst undef with defers := d :: a.defers } := by cases o.dst <;> rfl
            rw [e2, e1]
            exact hr W hW
/-- The operations that read, one behind the other. -/
def SeqR (P : Program) (ops : Array Oper) (S : World → Prop) (val : Nat → Value) : Act → List Nat → Prop
  | _, [] => True
  | a, k :: ks => FloatW P ops S val a k ∧ SeqR P ops S val (a.put (dstOf ops k) (val k)) ks
theorem seqR_all {val : Nat → Value} : ∀ (L pre : List Nat) (a : Act), (pre ++ L).Pairwise (· < ·) → SeqR P ops S val (aL ops val a pre) L → ∀ k ∈ L, FloatW P ops S val (aL ops val a ((pre ++ L).filter (decide <| · < k))) k := by
  intro L
  induction L with
  | nil => intro pre a _ _ k hk; cases hk
  | cons x L ih =>
    intro pre a hp h k hk
    obtain ⟨h1, h2⟩ := h
    have hpp := List.pairwise_append.1 hp
    rcases List.mem_cons.1 hk with rfl | hk
    · have e : (pre ++ k :: L).filter (decide <| · < k) = pre := by
        rw [List.filter_append, List.filter_eq_self.2 (fun y hy => by simpa using hpp.2.2 y hy k List.mem_cons_self), List.filter_eq_nil_iff.2 (fun y hy => ?_), List.append_nil]
        rcases List.mem_cons.1 hy with rfl | hy
        · simp
        · have := (List.pairwise_cons.1 hpp.2.1).1 y hy
          simp; omega
      rw [e]
      exact h1
    · have e : pre ++ x :: L = (pre ++ [x]) ++ L := by simp
      rw [e] at hp ⊢
      refine ih (pre ++ [x]) a hp ?_ k hk
      rw [aL_append]
      exact h2
def freeL (md : Region.Mode) (ops : Array Oper) (L M : List Nat) : Bool :=
  (List.range ops.size).all (fun k => L.contains k || M.contains k) && (L ++ M).all (fun k => decide (k < ops.size)) && L.all (fun j => M.all fun k => !waits md ops j k && j != k)
theorem wp_region_free {id : Nat} {a : Act} {w : World} (L M : List Nat) (S : World → Prop) (val : Nat → Value) (hm : P.follows .mixedOrders = true) (hsz : ops.size = M.length + L.length)
    (hn : Region.noSelect ops = true) (hb : canonB .any ops = true) (hd : distB ops = true) (hf : freeL .any ops L M = true) (hLs : L.Pairwise (· < ·)) (hMs : M.Nodup) (hS : S w.drew)
    (hr : SeqR P ops S val a L) (ht : wpFree P .any ops (QN Q) S M.length M (aL ops val a L) w.drew) : (Code.region id ops true).wp P Q a w := by
  simp only [freeL, Bool.and_eq_true, List.all_eq_true, List.mem_range, Bool.or_eq_true, List.contains_iff_mem, decide_eq_true_eq, Bool.not_eq_true', bne_iff_ne, ne_eq, List.mem_append] at hf
  obtain ⟨⟨f1, f2⟩, f3⟩ := hf
  refine wp_region_any hm ?_
  refine free_any hb hd (Region.noSelect_spec hn) val ops.size M L _ a _ (by omega) hMs (hLs.imp (fun h => Nat.ne_of_lt h)) (fun k hk h => (f3 k hk k h).2 rfl) (by simp) (fun k hk => by simp only [Array.getD, Array.size_replicate, hk, dif_pos, Array.getInternal_eq_getElem, Array.getElem_replicate]; simpa using f1 k hk) (fun k hk => f2 k hk) (fun j hj k hk => (f3 j hj k hk).1) (fun k hk => ?_) hS ht
  have := seqR_all (P := P) (ops := ops) (S := S) (val := val) L [] a hLs hr k hk
  simpa using this
end
end Go.Proofs.YtdhnidmeeocajaaGreat
end
