/- As CanonT, where the first operation of a region, one that only reads, may come up as late as behind the first one of the chain at the end. Of no program. No condition. -/
import Derived.Test.YtdhnidmeeocajaaGreatRel
namespace Go.Proofs.YtdhnidmeeocajaaGreat
open Go.RowKit

section
variable {P : Program} {ops : Array Oper} {Q : Exit → Act → World → Prop} {S S0 : World → Prop} {md : Region.Mode}
/-- Each of 1 .. r-1 is waited for by a later one, the r-th one at most; the first one, and the r-th one, by that behind the r-th one; each of the m behind the r-th one waits for the one ahead of it; the first one is apart from the r ones behind it. -/
def pendB (md : Region.Mode) (ops : Array Oper) (r m : Nat) : Bool :=
  (List.range r).all (fun p => p == 0 || (List.range (r + 1)).any fun q => decide (p < q) && waits md ops q p) && (List.range m).all (fun k => waits md ops (r + k + 1) (r + k)) && waits md ops (r + 1) 0 && (List.range (r + 1)).all (fun j => j == 0 || apartB ops 0 j)
theorem pend_all {listed : Array Bool} {r : Nat} (hr : r < ops.size) (hroot : ∀ p, p < r → p = 0 ∨ ∃ q, q < r + 1 ∧ p < q ∧ waits md ops q p = true) (hc : Closed md ops listed)
    (hj : ∀ o, ops[r]? = some o → ∀ e ∈ o.after, Region.binds md e = true → listed.getD e.on false = true) : ∀ n p, 0 < p → p < r → r - p = n → listed.getD p false = true := by
  intro n
  induction n using Nat.strongRecOn with
  | _ n ih =>
    intro p h0 hp hn
    obtain ⟨q, hq, hpq, hw⟩ := (hroot p hp).resolve_left (by omega)
    obtain ⟨o, ho⟩ : ∃ o, ops[q]? = some o := ⟨_, Array.getElem?_eq_getElem (show q < ops.size by omega)⟩
    obtain ⟨e, he, hb, rfl⟩ := (waits_iff ho).1 hw
    by_cases e2 : q = r
    · subst e2; exact hj o ho e he hb
    · exact hc q (ih (r - q) (by omega) q (by omega) (by omega) rfl) o ho e he hb
/-- What the first operation gives. -/
def Reads (P : Program) (ops : Array Oper) (S0 : World → Prop) (o : Oper) (v : Value) (a : Act) : Prop := Region.wanted o (yielded ops a.tmps) = true ∧ ∀ w, S0 w → (execOp a.eval o).run P w = .ok (.value v) w
theorem Reads.of_same {o : Oper} {v : Value} {a a' : Act} (hy : Reads P ops S0 o v a) (he : execOp a'.eval o = execOp a.eval o)
    (hw : Region.wanted o (yielded ops a'.tmps) = Region.wanted o (yielded ops a.tmps)) : Reads P ops S0 o v a' := by
  unfold Reads at *
  rw [he, hw]
  exact hy
theorem OpOK.of_same {o : Oper} {a a' : Act} {w : World} {K : Value → World → Prop} (hy : OpOK P ops o a w K) (he : execOp a'.eval o = execOp a.eval o)
    (hw : Region.wanted o (yielded ops a'.tmps) = Region.wanted o (yielded ops a.tmps)) : OpOK P ops o a' w K := by
  unfold OpOK at *
  rw [he, hw]
  exact hy
theorem OpOK.callK {o : Oper} {a : Act} {W : World} {f : FuncId} {args : Array Value} {K : Value → World → Prop} (hw : Region.wanted o (yielded ops a.tmps) = true)
    (h : (execOp a.eval o).run P W = .ok (.enter f args) W) (hc : Calls P f args W fun e W' => ∃ u, e = .returned u ∧ K u W') : OpOK P ops o a W K := .inl ⟨hw, by rw [h]; exact hc⟩
/-- The end of the early ones. -/
def EndP (P : Program) (ops : Array Oper) (Q : Exit → Act → World → Prop) (S S0 : World → Prop) (r m : Nat) (a : Act) : Prop :=
  ∀ w, S w → ∃ o, ops[r]? = some o ∧ OpOK P ops o a w fun u w' => S0 w' ∧ wpTail P ops Q (r + 1) m (a.put o.dst u) w'
/-- What must not hang on how far the first operation is. -/
structure PendH (P : Program) (md : Region.Mode) (ops : Array Oper) (S S0 : World → Prop) (r m : Nat) (o0 : Oper) : Prop where
  size : r + m < ops.size
  pos : 0 < m
  h0 : ops[0]? = some o0
  root : ∀ p, p < r → p = 0 ∨ ∃ q, q < r + 1 ∧ p < q ∧ waits md ops q p = true
  chain : ∀ k, k < m → waits md ops (r + k + 1) (r + k) = true
  wait0 : waits md ops (r + 1) 0 = true
  apart : ∀ j, 0 < j → j < r + 1 → apartB ops 0 j = true
  sel : ∀ (j : Nat) (o : Oper) cs b, ops[j]? = some o → o.op ≠ .select cs b
  hS : ∀ w, S w → S0 w
variable {r m : Nat} {o0 : Oper}
theorem PendH.wait (H : PendH P md ops S S0 r m o0) {listed : Array Bool} {j : Nat} (hj1 : r < j) (hj2 : j < r + (m + 1)) (hall : ∀ o, ops[j]? = some o → ∀ e ∈ o.after, Region.binds md e = true → listed.getD e.on false = true) (hv : listed.getD (j - 1) true = false) : False := by
  have hw := H.chain (j - r - 1) (by omega)
  rw [show r + (j - r - 1) + 1 = j by omega] at hw
  obtain ⟨o, ho⟩ : ∃ o, ops[j]? = some o := ⟨_, Array.getElem?_eq_getElem (show j < ops.size by have := H.size; omega)⟩
  obtain ⟨e, he, hb, he2⟩ := (waits_iff ho).1 hw
  have h3 := hall o ho e he hb
  rw [he2, show r + (j - r - 1) = j - 1 by omega] at h3
  exact unlisted_ne hv h3
/-- The first operation is done, and some early ones are left. -/
theorem pend_done (H : PendH P md ops S S0 r m o0) : ∀ (n : Nat) (is : List Nat) (listed : Array Bool) (a : Act) (w : World), is.length = n → (∀ i ∈ is, 0 < i ∧ i < r) → S w → Left md ops listed (is ++ List.range' r (m + 1)) → Closed md ops listed → Canon P ops S (EndP P ops Q S S0 r m) is a → wpAny P md ops Q (n + (m + 1)) listed a w := by
  intro n
  induction n with
  | zero =>
    intro is listed a w hl hlt hS hv hcl hc
    obtain rfl : is = [] := List.eq_nil_of_length_eq_zero hl
    rw [Nat.zero_add]
    obtain ⟨o, ho, hOK⟩ := hc w hS
    exact chain_any (m + 1) r listed a w (fun k hk => H.chain k (by omega)) hv (hOK.wpOp ho fun u w' h => h.2)
  | succ n ih =>
    intro is listed a w hl hlt hS hv hcl hc
    rw [show n + 1 + (m + 1) = (n + (m + 1)) + 1 by omega]
    refine ⟨fun h0 => ?_, fun j hj => ?_⟩
    · cases is with
      | nil => simp at hl
      | cons i is => have := Left.head (i := i) (is := is ++ List.range' r (m + 1)) hv; rw [h0] at this; simp at this
    · obtain ⟨hun, oj, hoj, hall⟩ := mem_ready.1 hj
      have hall2 : ∀ o, ops[j]? = some o → ∀ e ∈ o.after, Region.binds md e = true → listed.getD e.on false = true := fun o ho => by rw [hoj] at ho; cases ho; exact hall
      rcases List.mem_append.1 (hv.here j hun) with hm | hm
      · obtain ⟨pre, post, rfl⟩ := List.append_of_mem hm
        have hv' : Left md ops listed (pre ++ j :: (post ++ List.range' r (m + 1))) := by simpa using hv
        have hap : ∀ p ∈ pre, apartB ops p j = true := by
          intro p hp
          have h1 := (List.pairwise_append.1 hv'.pair).2.2 p hp j List.mem_cons_self
          rcases h1.2 with h2 | h2
          · exfalso
            obtain ⟨e, he, hb, rfl⟩ := (waits_iff hoj).1 h2
            exact unlisted_ne (hv'.un e.on (List.mem_append_left _ hp)) (hall e he hb)
          · exact h2
        obtain ⟨o, v, ho, hd, hrest⟩ := move_ H.sel pre a hap hc
        refine hd.wpOp ho hS fun w' hS' => ih _ _ _ _ (by simp at hl ⊢; omega) (fun i hi => hlt i (by rcases List.mem_append.1 hi with h | h; exact List.mem_append_left _ h; exact List.mem_append_right _ (List.mem_cons_of_mem _ h))) hS' ?_ (hcl.set hall2) hrest
        have := hv'.take
        simpa using this
      · exfalso
        have hjm : r ≤ j ∧ j < r + (m + 1) := by simp [List.mem_range'_1] at hm; omega
        rcases Nat.eq_or_lt_of_le hjm.1 with h1 | h1
        · subst h1
          cases is with
          | nil => simp at hl
          | cons i is =>
            have hi := hlt i (by simp)
            have h2 := pend_all (by have := H.size; omega) H.root hcl hall2 (r - i) i hi.1 hi.2 rfl
            exact unlisted_ne (hv.un i (by simp)) h2
        · exact H.wait h1 hjm.2 hall2 (hv.un (j - 1) (List.mem_append_right _ (by simp [List.mem_range'_1]; omega)))
theorem move0 {j : Nat} {post : List Nat} {F : Act → Prop} {v0 : Value} {a : Act} (H : PendH P md ops S S0 r m o0) (hj0 : 0 < j) (hjr : j < r) (pre : List Nat) (hap : ∀ p ∈ pre, apartB ops p j = true)
    (h : Canon P ops S F (pre ++ j :: post) (a.put o0.dst v0)) (hr : Reads P ops S0 o0 v0 a) : ∃ o v, ops[j]? = some o ∧ Det P ops S o v a ∧ Canon P ops S F (pre ++ post) ((a.put o.dst v).put o0.dst v0) ∧ Reads P ops S0 o0 v0 (a.put o.dst v) := by
  obtain ⟨o, v, ho, hd, hrest⟩ := move_ H.sel pre _ hap h
  have hap0 := H.apart j hj0 (by omega)
  simp only [apartB, H.h0, ho] at hap0
  obtain ⟨h1, h2, h3⟩ := Oper.apart_spec hap0
  refine ⟨o, v, ho, hd.of_same (execOp_put o (fun cs b => H.sel j o cs b ho) a o0.dst v0 h1).symm (wanted_put o a o0.dst v0 h1).symm, ?_, hr.of_same (execOp_put o0 (fun cs b => H.sel 0 o0 cs b H.h0) a o.dst v h3) (wanted_put o0 a o.dst v h3)⟩
  rw [← Act.put_comm a v0 v h2]
  exact hrest
theorem Reads.wpOp {v0 : Value} {a : Act} {w : World} {K : Act → World → Prop} (h0 : ops[0]? = some o0) (hr : Reads P ops S0 o0 v0 a) (hS : S0 w) (h : K (a.put o0.dst v0) w) : wpOp P ops Q 0 K a w := by
  unfold Go.wpOp
  simp only [h0]
  rw [if_pos hr.1]
  refine .inl ?_
  unfold Oper.wp
  rw [hr.2 w hS]
  exact h
/-- Only the chain's first one is done, and the first operation is not. -/
theorem pend_last (H : PendH P md ops S S0 r m o0) {v0 : Value} {listed : Array Bool} {a : Act} {w : World} (hr : Reads P ops S0 o0 v0 a) (hS : S0 w) (hv : Left md ops listed (0 :: List.range' (r + 1) m)) (h : wpTail P ops Q (r + 1) m (a.put o0.dst v0) w) : wpAny P md ops Q (m + 1) listed a w := by
  refine ⟨fun h0 => by have := hv.head; rw [h0] at this; simp at this, fun j hj => ?_⟩
  obtain ⟨hun, oj, hoj, hall⟩ := mem_ready.1 hj
  have hj0 : j = 0 := by
    rcases List.mem_cons.1 (hv.here j hun) with h1 | h1
    · exact h1
    · exfalso
      have hjm : r + 1 ≤ j ∧ j < r + 1 + m := by simpa [List.mem_range'_1] using h1
      rcases Nat.eq_or_lt_of_le hjm.1 with h2 | h2
      · subst h2
        obtain ⟨e, he, hb, he2⟩ := (waits_iff hoj).1 H.wait0
        have h3 := hall e he hb
        rw [he2] at h3
        exact unlisted_ne (hv.un 0 List.mem_cons_self) h3
      · exact H.wait (listed := listed) (by omega) (by omega) (fun o ho => by rw [hoj] at ho; cases ho; exact hall) (hv.un (j - 1) (List.mem_cons_of_mem _ (by simp [List.mem_range'_1]; omega)))
  subst hj0
  refine hr.wpOp H.h0 hS ?_
  exact chain_any m (r + 1) _ _ w (fun k hk => by have := H.chain (k + 1) (by omega); rwa [show r + (k + 1) + 1 = r + 1 + k + 1 by omega, show r + (k + 1) = r + 1 + k by omega] at this) (Left.take (pre := []) hv) h
theorem pend_any (H : PendH P md ops S S0 r m o0) {v0 : Value} : ∀ (n : Nat) (is : List Nat) (listed : Array Bool) (a : Act) (w : World), is.length = n → (∀ i ∈ is, 0 < i ∧ i < r) → S w → Left md ops listed (0 :: (is ++ List.range' r (m + 1))) → Closed md ops listed → Reads P ops S0 o0 v0 a → Canon P ops S (EndP P ops Q S S0 r m) is (a.put o0.dst v0) → wpAny P md ops Q (n + 1 + (m + 1)) listed a w := by
  intro n
  induction n with
  | zero =>
    intro is listed a w hl hlt hS hv hcl hr hc
    obtain rfl : is = [] := List.eq_nil_of_length_eq_zero hl
    rw [List.nil_append] at hv
    rw [show 0 + 1 + (m + 1) = (m + 1) + 1 by omega]
    refine ⟨fun h0 => by have := hv.head; rw [h0] at this; simp at this, fun j hj => ?_⟩
    obtain ⟨hun, oj, hoj, hall⟩ := mem_ready.1 hj
    have hall2 : ∀ o, ops[j]? = some o → ∀ e ∈ o.after, Region.binds md e = true → listed.getD e.on false = true := fun o ho => by rw [hoj] at ho; cases ho; exact hall
    rcases List.mem_cons.1 (hv.here j hun) with rfl | h1
    · refine hr.wpOp H.h0 (H.hS w hS) ?_
      have := pend_done (Q := Q) H 0 [] (listed.setIfInBounds 0 true) (a.put o0.dst v0) w rfl (fun i hi => by cases hi) hS (by have := Left.take (pre := []) hv; simpa using this) (hcl.set hall2) hc
      rwa [Nat.zero_add] at this
    · have hjm : r ≤ j ∧ j < r + (m + 1) := by simpa [List.mem_range'_1] using h1
      rcases Nat.eq_or_lt_of_le hjm.1 with h2 | h2
      · subst h2
        obtain ⟨o, ho, hOK⟩ := hc w hS
        have hrp : 0 < r ∨ r = 0 := by omega
        rcases hrp with hrp | hrp
        · have hap0 := H.apart r hrp (by omega)
          simp only [apartB, H.h0, ho] at hap0
          obtain ⟨h1, h2, h3⟩ := Oper.apart_spec hap0
          refine (hOK.of_same (execOp_put o (fun cs b => H.sel r o cs b ho) a o0.dst v0 h1).symm (wanted_put o a o0.dst v0 h1).symm).wpOp ho fun u w' hu => ?_
          refine pend_last H (hr.of_same (execOp_put o0 (fun cs b => H.sel 0 o0 cs b H.h0) a o.dst u h3) (wanted_put o0 a o.dst u h3)) hu.1 ?_ (by rw [← Act.put_comm a v0 u h2]; exact hu.2)
          have hcons : List.range' r (m + 1) = r :: List.range' (r + 1) m := List.range'_succ ..
          rw [hcons] at hv
          exact Left.take (pre := [0]) hv
        · exfalso
          rw [hrp] at hv
          have := hv.nodup
          rw [List.range'_succ] at this
          simp at this
      · exact (H.wait h2 hjm.2 hall2 (hv.un (j - 1) (List.mem_cons_of_mem _ (by simp [List.mem_range'_1]; omega)))).elim
  | succ n ih =>
    intro is listed a w hl hlt hS hv hcl hr hc
    rw [show n + 1 + 1 + (m + 1) = (n + 1 + (m + 1)) + 1 by omega]
    refine ⟨fun h0 => by have := hv.head; rw [h0] at this; simp at this, fun j hj => ?_⟩
    obtain ⟨hun, oj, hoj, hall⟩ := mem_ready.1 hj
    have hall2 : ∀ o, ops[j]? = some o → ∀ e ∈ o.after, Region.binds md e = true → listed.getD e.on false = true := fun o ho => by rw [hoj] at ho; cases ho; exact hall
    rcases List.mem_cons.1 (hv.here j hun) with rfl | h1
    · refine hr.wpOp H.h0 (H.hS w hS) ?_
      exact pend_done (Q := Q) H (n + 1) is (listed.setIfInBounds 0 true) (a.put o0.dst v0) w hl hlt hS (Left.take (pre := []) hv) (hcl.set hall2) hc
    rcases List.mem_append.1 h1 with hm | hm
    · obtain ⟨pre, post, rfl⟩ := List.append_of_mem hm
      have hv' : Left md ops listed ((0 :: pre) ++ j :: (post ++ List.range' r (m + 1))) := by simpa using hv
      have hap : ∀ p ∈ pre, apartB ops p j = true := by
        intro p hp
        have h1 := (List.pairwise_append.1 hv'.pair).2.2 p (List.mem_cons_of_mem _ hp) j List.mem_cons_self
        rcases h1.2 with h2 | h2
        · exfalso
          obtain ⟨e, he, hb, rfl⟩ := (waits_iff hoj).1 h2
          exact unlisted_ne (hv'.un e.on (List.mem_append_left _ (List.mem_cons_of_mem _ hp))) (hall e he hb)
        · exact h2
      have hjr := hlt j hm
      obtain ⟨o, v, ho, hd, hrest, hr2⟩ := move0 H hjr.1 hjr.2 pre hap hc hr
      refine hd.wpOp ho hS fun w' hS' => ih _ _ _ _ (by simp at hl ⊢; omega) (fun i hi => hlt i (by rcases List.mem_append.1 hi with h | h; exact List.mem_append_left _ h; exact List.mem_append_right _ (List.mem_cons_of_mem _ h))) hS' ?_ (hcl.set hall2) hr2 hrest
      have := hv'.take
      simpa using this
    · exfalso
      have hjm : r ≤ j ∧ j < r + (m + 1) := by simpa [List.mem_range'_1] using hm
      rcases Nat.eq_or_lt_of_le hjm.1 with h1 | h1
      · subst h1
        cases is with
        | nil => simp at hl
        | cons i is =>
          have hi := hlt i (by simp)
          have h2 := pend_all (by have := H.size; omega) H.root hcl hall2 (r - i) i hi.1 hi.2 rfl
          exact unlisted_ne (hv.un i (by simp)) h2
      · exact H.wait h1 hjm.2 hall2 (hv.un (j - 1) (List.mem_cons_of_mem _ (List.mem_append_right _ (by simp [List.mem_range'_1]; omega))))
theorem any_pend {a : Act} {w : World} (r m : Nat) (S S0 : World → Prop) {os' os ts : List Oper} (v0 : Value) (hos' : ops = (o0 :: os').toArray) (hsp : splitN r os' = some (os, ts)) (hsz : ops.size = r + 1 + (m + 1)) (hm : decide (0 < m) = true) (hn : Region.noSelect ops = true) (hb : canonB .any ops = true) (ht : pendB .any ops (r + 1) m = true)
    (hSS : ∀ w, S w → S0 w) (hS : S w) (hr : Reads P ops S0 o0 v0 a) (hc : CanonL P ops S (EndP P ops Q S S0 (r + 1) m) os (a.put o0.dst v0)) : wpAny P .any ops Q ops.size (Array.replicate ops.size false) a w := by
  obtain ⟨h1, h2⟩ := splitN_eq _ _ _ _ hsp
  simp only [pendB, Bool.and_eq_true, List.all_eq_true, List.mem_range, List.any_eq_true, Bool.or_eq_true, beq_iff_eq, decide_eq_true_eq] at ht
  obtain ⟨⟨⟨t1, t2⟩, t3⟩, t4⟩ := ht
  have H : PendH P .any ops S S0 (r + 1) m o0 := ⟨by omega, of_decide_eq_true hm, by subst hos'; rfl, fun p hp => (t1 p hp).imp id fun ⟨q, a, b, c⟩ => ⟨q, a, b, c⟩, t2, t3, fun j h1 h2 => (t4 j h2).resolve_left (by omega), Region.noSelect_spec hn, hSS⟩
  have hL := Left.start hb
  have e1 : List.range ops.size = 0 :: (List.range' 1 r ++ List.range' (r + 1) (m + 1)) := by
    rw [hsz, show r + 1 + (m + 1) = (r + (m + 1)) + 1 by omega, List.range_eq_range', List.range'_succ, ← List.range'_append_1, Nat.zero_add, Nat.add_comm 1 r]
  rw [e1] at hL
  have h := canon_of os 1 (a.put o0.dst v0) (fun j h => by subst hos'; rw [h1]; simp [Nat.add_comm 1 j, List.getElem?_append, h]) hc
  rw [h2] at h
  have key := pend_any (Q := Q) H (v0 := v0) r (List.range' 1 r) (Array.replicate ops.size false) a w (by simp) (fun i hi => by simp [List.mem_range'_1] at hi; omega) hS hL (Closed.start _ _) hr h
  have e2 : r + 1 + (m + 1) = ops.size := hsz.symm
  rw [e2] at key
  exact key
theorem wp_region_pend {id : Nat} {a : Act} {w : World} (r m : Nat) (S S0 : World → Prop) {os' os ts : List Oper} (v0 : Value) (hm' : P.follows .mixedOrders = true) (hos' : ops = (o0 :: os').toArray) (hsp : splitN r os' = some (os, ts)) (hsz : ops.size = r + 1 + (m + 1)) (hm : decide (0 < m) = true) (hn : Region.noSelect ops = true) (hb : canonB .any ops = true) (ht : pendB .any ops (r + 1) m = true)
    (hSS : ∀ w, S w → S0 w) (hS : S w.drew) (hr : Reads P ops S0 o0 v0 a) (hc : CanonL P ops S (EndP P ops Q S S0 (r + 1) m) os (a.put o0.dst v0)) : (Code.region id ops true).wp P Q a w :=
  wp_region_any hm' (any_pend r m S S0 v0 hos' hsp hsz hm hn hb ht hSS hS hr hc)
end
end Go.Proofs.YtdhnidmeeocajaaGreat

