/- As Canon, with a quick look at which function an operation calls. Of no program. No condition. -/
import Derived.Test.YtdhnidmeeocajaaGreatCanon
import Derived.Deep.RegionHeld
import Derived.Deep.RegionHeld3
section
namespace Go.Proofs.YtdhnidmeeocajaaGreat
open Go.RowKit

/-- The function of the program that an operation calls, if it is written there. -/
def callF (o : Oper) : Option FuncId :=
  match o.op with
  | .call c => (match c.callee with
    | .value (.func f) => some f
    | _ => none)
  | _ => none
theorem CanonL.callQ {P : Program} {ops : Array Oper} {S : World → Prop} {F : Act → Prop} {os : List Oper} {a : Act} {o : Oper} {v : Value} {f : FuncId} {args : Array Value} {T : World → World → Prop} (_ : callF o = some f) (hw : Region.wanted o (yielded ops a.tmps) = true)
    (h : ∀ w, (execOp a.eval o).run P w = .ok (.enter f args) w) (hcall : Hid (∀ w, Calls P f args w fun e w' => e = .returned v ∧ T w w')) (hST : ∀ w w', S w → T w w' → S w')
    (hK : CanonL P ops S F os (a.put o.dst v)) : CanonL P ops S F (o :: os) a := CanonL.callT hw h hcall hST hK
/-- The same by a contract that holds in the worlds that meet S. -/
theorem CanonL.callS {P : Program} {ops : Array Oper} {S : World → Prop} {F : Act → Prop} {os : List Oper} {a : Act} {o : Oper} {v : Value} {f : FuncId} {args : Array Value} {T : World → World → Prop} (_ : callF o = some f) (hw : Region.wanted o (yielded ops a.tmps) = true)
    (h : ∀ w, (execOp a.eval o).run P w = .ok (.enter f args) w) (hcall : ∀ w, S w → Calls P f args w fun e w' => e = .returned v ∧ T w w') (hST : ∀ w w', S w → T w w' → S w')
    (hK : CanonL P ops S F os (a.put o.dst v)) : CanonL P ops S F (o :: os) a := CanonL.call hw h (fun w hS => (hcall w hS).mono fun _ w' he => ⟨he.1, hST w w' hS he.2⟩) hK
/-- A load whose run is known in every world that meets S. -/
theorem CanonL.load {P : Program} {ops : Array Oper} {S : World → Prop} {F : Act → Prop} {os : List Oper} {a : Act} {o : Oper} {p v : Value} {t : TypeId} (hw : Region.wanted o (yielded ops a.tmps) = true) (x : Operand) (ho : o.op = .load t x) (hx : a.eval x = p)
    (h : ∀ w, S w → (Instr.loadAt t p).run P w = .ok v w) (hK : CanonL P ops S F os (a.put o.dst v)) : CanonL P ops S F (o :: os) a :=
  CanonL.val hw (fun w hs => by
    unfold execOp
    simp only [ho, hx, Sem.run_bind, h w hs, Result.andThen_ok, Sem.run_pure]) hK
end Go.Proofs.YtdhnidmeeocajaaGreat
end
section
namespace Go.Proofs.YtdhnidmeeocajaaGreat
open Go.RowKit

section
variable {P : Program} {ops : Array Oper} {Q : Exit → Act → World → Prop} {S : World → Prop} {F : Act → Prop}

/-- Each operation but the last one is waited for by a later one. -/
def rootB (md : Region.Mode) (ops : Array Oper) : Bool := (List.range (ops.size - 1)).all fun p => (List.range ops.size).any fun q => decide (p < q) && waits md ops q p

/-- What has come up came behind all for which it waits. -/
def Closed (md : Region.Mode) (ops : Array Oper) (listed : Array Bool) : Prop :=
  ∀ i, listed.getD i false = true → ∀ o, ops[i]? = some o → ∀ e ∈ o.after, Region.binds md e = true → listed.getD e.on false = true

theorem getD_set_true {listed : Array Bool} {i j : Nat} (h : listed.getD j false = true) : (listed.setIfInBounds i true).getD j false = true := by
  by_cases e : i = j
  · subst e
    rcases Nat.lt_or_ge i listed.size with h' | h'
    · simp [h']
    · simp [Array.getElem?_eq_none h'] at h
  · rw [getD_set_ne false e]; exact h

theorem Closed.set {md : Region.Mode} {listed : Array Bool} {j : Nat} (hc : Closed md ops listed) (hj : ∀ o, ops[j]? = some o → ∀ e ∈ o.after, Region.binds md e = true → listed.getD e.on false = true) : Closed md ops (listed.setIfInBounds j true) := by
  intro i hi o ho e he hb
  by_cases hij : j = i
  · subst hij; exact getD_set_true (hj o ho e he hb)
  · rw [getD_set_ne false hij] at hi
    exact getD_set_true (hc i hi o ho e he hb)

theorem root_all {md : Region.Mode} {listed : Array Bool} {r : Nat} (hr : r + 1 = ops.size) (hroot : rootB md ops = true) (hc : Closed md ops listed)
    (hj : ∀ o, ops[r]? = some o → ∀ e ∈ o.after, Region.binds md e = true → listed.getD e.on false = true) : ∀ n p, p < r → r - p = n → listed.getD p false = true := by
  intro n
  induction n using Nat.strongRecOn with
  | _ n ih =>
    intro p hp hn
    simp only [rootB, List.all_eq_true, List.mem_range, List.any_eq_true, Bool.and_eq_true, decide_eq_true_eq] at hroot
    obtain ⟨q, hq, hpq, hw⟩ := hroot p (by omega)
    obtain ⟨o, ho⟩ : ∃ o, ops[q]? = some o := ⟨_, Array.getElem?_eq_getElem hq⟩
    obtain ⟨e, he, hb, rfl⟩ := (waits_iff ho).1 hw
    by_cases e2 : q = r
    · subst e2; exact hj o ho e he hb
    · exact hc q (ih (r - q) (by omega) q (by omega) rfl) o ho e he hb

theorem canonR_any {md : Region.Mode} {r : Nat} (hr : r + 1 = ops.size) (hroot : rootB md ops = true) (hsel : ∀ (j : Nat) (o : Oper) cs b, ops[j]? = some o → o.op ≠ .select cs b)
    (hF : ∀ a w, F a → S w → wpOp P ops Q r (fun a w => Q .normal a w) a w) :
    ∀ (n : Nat) (is : List Nat) (listed : Array Bool) (a : Act) (w : World), is.length = n → S w → Left md ops listed (is ++ [r]) → Closed md ops listed → Canon P ops S F is a → wpAny P md ops Q (n + 1) listed a w := by
  intro n
  induction n with
  | zero =>
    intro is listed a w hl hS hv hcl hc
    obtain rfl : is = [] := List.eq_nil_of_length_eq_zero hl
    refine ⟨fun h0 => ?_, fun j hj => ?_⟩
    · have := hv.head; rw [h0] at this; simp at this
    · have hjr : j = r := by simpa using hv.here j (mem_ready.1 hj).1
      subst hjr
      refine wpOp_mono (fun a w h => ?_) (hF a w hc hS)
      refine ⟨?_, h⟩
      have hv2 := Left.take (pre := []) (post := []) hv
      rw [List.eq_nil_iff_forall_not_mem]
      intro k hk
      have := hv2.here k (mem_ready.1 hk).1
      simp at this
  | succ n ih =>
    intro is listed a w hl hS hv hcl hc
    refine ⟨fun h0 => ?_, fun j hj => ?_⟩
    · cases is with
      | nil => simp at hl
      | cons i is => have := Left.head (i := i) (is := is ++ [r]) hv; rw [h0] at this; simp at this
    · obtain ⟨hun, oj, hoj, hall⟩ := mem_ready.1 hj
      have hall2 : ∀ o, ops[j]? = some o → ∀ e ∈ o.after, Region.binds md e = true → listed.getD e.on false = true := fun o ho => by rw [hoj] at ho; cases ho; exact hall
      rcases List.mem_append.1 (hv.here j hun) with hm | hm
      · obtain ⟨pre, post, rfl⟩ := List.append_of_mem hm
        have hv' : Left md ops listed (pre ++ j :: (post ++ [r])) := by simpa using hv
        have hap : ∀ p ∈ pre, apartB ops p j = true := by
          intro p hp
          have h1 := (List.pairwise_append.1 hv'.pair).2.2 p hp j List.mem_cons_self
          rcases h1.2 with h2 | h2
          · exfalso
            obtain ⟨e, he, hb, rfl⟩ := (waits_iff hoj).1 h2
            exact unlisted_ne (hv'.un e.on (List.mem_append_left _ hp)) (hall e he hb)
          · exact h2
        obtain ⟨o, v, ho, hd, hrest⟩ := move_ hsel pre a hap hc
        refine hd.wpOp ho hS fun w' hS' => ih _ _ _ _ (by simp at hl ⊢; omega) hS' ?_ (hcl.set hall2) hrest
        have := hv'.take
        simpa using this
      · exfalso
        obtain rfl : j = r := by simpa using hm
        cases is with
        | nil => simp at hl
        | cons i is =>
          have hi : i < ops.size := by
            obtain ⟨o, ho⟩ := hv.there i (by simp)
            exact (Array.getElem?_eq_some_iff.1 ho).1
          have hne : i ≠ j := by
            have := hv.nodup
            simp only [List.cons_append, List.nodup_cons, List.mem_append, List.mem_singleton, not_or] at this
            exact this.1.2
          have h1 := root_all hr hroot hcl hall2 (j - i) i (by omega) rfl
          exact unlisted_ne (hv.un i (by simp)) h1

theorem Closed.start (md : Region.Mode) (n : Nat) : Closed md ops (Array.replicate n false) := by
  intro i hi
  rcases Nat.lt_or_ge i n with h | h
  · simp [h] at hi
  · simp [Nat.not_lt.2 h] at hi

/-- A list without its last one, and that one. -/
def splitLast {α : Type} : List α → Option (List α × α)
  | [] => none
  | x :: xs => match splitLast xs with
    | none => some ([], x)
    | some (l, y) => some (x :: l, y)
theorem splitLast_eq {α : Type} : ∀ (xs l : List α) (y : α), splitLast xs = some (l, y) → xs = l ++ [y] := by
  intro xs
  induction xs with
  | nil => intro l y h; cases h
  | cons x xs ih =>
    intro l y h
    unfold splitLast at h
    cases hs : splitLast xs with
    | none =>
      rw [hs] at h
      cases h
      cases xs with
      | nil => rfl
      | cons z zs => unfold splitLast at hs; split at hs <;> cases hs
    | some p =>
      obtain ⟨l', y'⟩ := p
      rw [hs] at h
      cases h
      rw [ih l' y hs]; rfl

theorem wp_region_root {id : Nat} {a : Act} {w : World} (S : World → Prop) {os' os : List Oper} {o : Oper} (hm : P.follows .mixedOrders = true) (hos' : ops = os'.toArray) (hsp : splitLast os' = some (os, o)) (hn : Region.noSelect ops = true) (hb : canonB .any ops = true) (hroot : rootB .any ops = true)
    (hS : S w.drew) (hc : CanonL P ops S (fun a => ∀ w, S w → wpOp P ops Q os.length (fun a w => Q .normal a w) a w) os a) : (Code.region id ops true).wp P Q a w := by
  have hos : ops = (os ++ [o]).toArray := by rw [hos', splitLast_eq _ _ _ hsp]
  have hsz : ops.size = os.length + 1 := by subst hos; simp
  refine wp_region_any hm ?_
  rw [hsz]
  refine canonR_any (F := fun a => ∀ w, S w → wpOp P ops Q os.length (fun a w => Q .normal a w) a w) (r := os.length) hsz.symm hroot (Region.noSelect_spec hn) (fun a w hF hS => hF w hS) os.length (List.range os.length) _ a _ (by simp) hS ?_ (Closed.start _ _) ?_
  · have := Left.start hb
    rw [hsz, List.range_succ] at this
    exact this
  · have h := canon_of os 0 a (fun j h => by subst hos; rw [Nat.zero_add]; simp [List.getElem?_append, h]) hc
    rw [List.range_eq_range']
    simpa using h
end
end Go.Proofs.YtdhnidmeeocajaaGreat
end
section
namespace Go.Proofs.YtdhnidmeeocajaaGreat
open Go.RowKit

section
variable {P : Program} {ops : Array Oper} {Q : Exit → Act → World → Prop} {S : World → Prop} {F : Act → Prop}
/-- m operations from the r-th one on, one behind the other. -/
def wpTail (P : Program) (ops : Array Oper) (Q : Exit → Act → World → Prop) : Nat → Nat → Act → World → Prop
  | _, 0, a, w => Q .normal a w
  | r, m + 1, a, w => wpOp P ops Q r (fun a w => wpTail P ops Q (r + 1) m a w) a w
theorem wpTail.cons {r m : Nat} {a : Act} {w : World} {o : Oper} (hi : ops[r]? = some o) (hg : o.guard = none) (h : ∀ K : Act → World → Prop, (∀ a w, wpTail P ops Q (r + 1) m a w → K a w) → o.wp P a w K Q) : wpTail P ops Q r (m + 1) a w := by
  show wpOp P ops Q r _ a w
  unfold wpOp
  simp only [hi]
  rw [if_pos (by unfold Region.wanted; rw [hg])]
  exact .inl (h _ fun _ _ h => h)
theorem wpTail.done {r : Nat} {a : Act} {w : World} (h : Q .normal a w) : wpTail P ops Q r 0 a w := h
/-- Each of the first r is waited for by a later one, the r-th one at most; each of the m behind the r-th one waits for the one ahead of it. -/
def tailB (md : Region.Mode) (ops : Array Oper) (r m : Nat) : Bool :=
  (List.range r).all (fun p => (List.range (r + 1)).any fun q => decide (p < q) && waits md ops q p) && (List.range m).all (fun k => waits md ops (r + k + 1) (r + k))

theorem tail_all {md : Region.Mode} {listed : Array Bool} {r : Nat} (hr : r < ops.size) (hroot : (List.range r).all (fun p => (List.range (r + 1)).any fun q => decide (p < q) && waits md ops q p) = true) (hc : Closed md ops listed)
    (hj : ∀ o, ops[r]? = some o → ∀ e ∈ o.after, Region.binds md e = true → listed.getD e.on false = true) : ∀ n p, p < r → r - p = n → listed.getD p false = true := by
  intro n
  induction n using Nat.strongRecOn with
  | _ n ih =>
    intro p hp hn
    have hroot' := hroot
    simp only [List.all_eq_true, List.mem_range, List.any_eq_true, Bool.and_eq_true, decide_eq_true_eq] at hroot'
    obtain ⟨q, hq, hpq, hw⟩ := hroot' p hp
    obtain ⟨o, ho⟩ : ∃ o, ops[q]? = some o := ⟨_, Array.getElem?_eq_getElem (show q < ops.size by omega)⟩
    obtain ⟨e, he, hb, rfl⟩ := (waits_iff ho).1 hw
    by_cases e2 : q = r
    · subst e2; exact hj o ho e he hb
    · exact hc q (ih (r - q) (by omega) q (by omega) rfl) o ho e he hb

theorem chain_any {md : Region.Mode} : ∀ (m r : Nat) (listed : Array Bool) (a : Act) (w : World), (∀ k, k + 1 < m → waits md ops (r + k + 1) (r + k) = true) → Left md ops listed (List.range' r m) → wpTail P ops Q r m a w → wpAny P md ops Q m listed a w := by
  intro m
  induction m with
  | zero =>
    intro r listed a w _ hv h
    refine ⟨?_, h⟩
    rw [List.eq_nil_iff_forall_not_mem]
    intro k hk
    have := hv.here k (mem_ready.1 hk).1
    simp at this
  | succ m ih =>
    intro r listed a w hch hv h
    have hcons : List.range' r (m + 1) = r :: List.range' (r + 1) m := List.range'_succ ..
    refine ⟨fun h0 => ?_, fun j hj => ?_⟩
    · rw [hcons] at hv
      have := hv.head; rw [h0] at this; simp at this
    · obtain ⟨hun, oj, hoj, hall⟩ := mem_ready.1 hj
      have hm := hv.here j hun
      have hjr : j = r := by
        rcases Nat.eq_or_lt_of_le (show r ≤ j by simp [List.mem_range'_1] at hm; omega) with h1 | h1
        · exact h1.symm
        · exfalso
          have hjm : j < r + (m + 1) := by simp [List.mem_range'_1] at hm; omega
          have hw := hch (j - r - 1) (by omega)
          rw [show r + (j - r - 1) + 1 = j by omega] at hw
          obtain ⟨e, he, hb, he2⟩ := (waits_iff hoj).1 hw
          have h3 := hall e he hb
          rw [he2] at h3
          exact unlisted_ne (hv.un (r + (j - r - 1)) (by simp [List.mem_range'_1]; omega)) h3
      subst hjr
      refine wpOp_mono (fun a w h => ih (j + 1) _ a w (fun k hk => ?_) ?_ h) h
      · have := hch (k + 1) (by omega)
        rwa [show j + (k + 1) + 1 = j + 1 + k + 1 by omega, show j + (k + 1) = j + 1 + k by omega] at this
      · rw [hcons] at hv
        exact Left.take (pre := []) hv

theorem canonT_any {md : Region.Mode} {r m : Nat} (hr : r + m < ops.size) (ht : tailB md ops r m = true) (hsel : ∀ (j : Nat) (o : Oper) cs b, ops[j]? = some o → o.op ≠ .select cs b)
    (hF : ∀ a w, F a → S w → wpTail P ops Q r (m + 1) a w) :
    ∀ (n : Nat) (is : List Nat) (listed : Array Bool) (a : Act) (w : World), is.length = n → (∀ i ∈ is, i < r) → S w → Left md ops listed (is ++ List.range' r (m + 1)) → Closed md ops listed → Canon P ops S F is a → wpAny P md ops Q (n + (m + 1)) listed a w := by
  simp only [tailB, Bool.and_eq_true] at ht
  obtain ⟨hroot, hch⟩ := ht
  simp only [List.all_eq_true, List.mem_range] at hch
  intro n
  induction n with
  | zero =>
    intro is listed a w hl hlt hS hv hcl hc
    obtain rfl : is = [] := List.eq_nil_of_length_eq_zero hl
    rw [Nat.zero_add]
    exact chain_any (m + 1) r listed a w (fun k hk => hch k (by omega)) hv (hF a w hc hS)
  | succ n ih =>
    intro is listed a w hl hlt hS hv hcl hc
    rw [show n + 1 + (m + 1) = (n + (m + 1)) + 1 by omega]
    refine ⟨fun h0 => ?_, fun j hj => ?_⟩
    · cases is with
      | nil => simp at hl
      | cons i is => have := Left.head (i := i) (is := is ++ List.range' r (m + 1)) hv; rw [h0] at this; simp at this
    · obtain ⟨hun, oj, hoj, hall⟩ := mem_ready.1 hj
      have hall2 : ∀ o, ops[j]? = some o → ∀ e ∈ o.after, Region.binds md e = true → listed.getD e.on false = true := fun o ho => by rw [hoj] at ho; cases ho; exact hall
      rcases List.mem_append.1 (hv.here j hun) with hm | hm
      · obtain ⟨pre, post, rfl⟩ := List.append_of_mem hm
        have hv' : Left md ops listed (pre ++ j :: (post ++ List.range' r (m + 1))) := by simpa using hv
        have hap : ∀ p ∈ pre, apartB ops p j = true := by
          intro p hp
          have h1 := (List.pairwise_append.1 hv'.pair).2.2 p hp j List.mem_cons_self
          rcases h1.2 with h2 | h2
          · exfalso
            obtain ⟨e, he, hb, rfl⟩ := (waits_iff hoj).1 h2
            exact unlisted_ne (hv'.un e.on (List.mem_append_left _ hp)) (hall e he hb)
          · exact h2
        obtain ⟨o, v, ho, hd, hrest⟩ := move_ hsel pre a hap hc
        refine hd.wpOp ho hS fun w' hS' => ih _ _ _ _ (by simp at hl ⊢; omega) (fun i hi => hlt i (by rcases List.mem_append.1 hi with h | h; exact List.mem_append_left _ h; exact List.mem_append_right _ (List.mem_cons_of_mem _ h))) hS' ?_ (hcl.set hall2) hrest
        have := hv'.take
        simpa using this
      · exfalso
        have hjm : r ≤ j ∧ j < r + (m + 1) := by simp [List.mem_range'_1] at hm; omega
        rcases Nat.eq_or_lt_of_le hjm.1 with h1 | h1
        · subst h1
          cases is with
          | nil => simp at hl
          | cons i is =>
            have h2 := tail_all (by omega) hroot hcl hall2 (r - i) i (hlt i (by simp)) rfl
            exact unlisted_ne (hv.un i (by simp)) h2
        · have hw := hch (j - r - 1) (by omega)
          rw [show r + (j - r - 1) + 1 = j by omega] at hw
          obtain ⟨e, he, hb, he2⟩ := (waits_iff hoj).1 hw
          have h3 := hall e he hb
          rw [he2] at h3
          exact unlisted_ne (hv.un (r + (j - r - 1)) (List.mem_append_right _ (by simp [List.mem_range'_1]; omega))) h3

/-- The first k of a list, and the others. -/
def splitN {α : Type} : Nat → List α → Option (List α × List α)
  | 0, l => some ([], l)
  | _ + 1, [] => none
  | k + 1, x :: xs => match splitN k xs with
    | none => none
    | some (a, b) => some (x :: a, b)
theorem splitN_eq {α : Type} : ∀ (k : Nat) (l a b : List α), splitN k l = some (a, b) → l = a ++ b ∧ a.length = k := by
  intro k
  induction k with
  | zero => intro l a b h; cases h; exact ⟨rfl, rfl⟩
  | succ k ih =>
    intro l a b h
    cases l with
    | nil => cases h
    | cons x xs =>
      unfold splitN at h
      cases hs : splitN k xs with
      | none => rw [hs] at h; cases h
      | some p =>
        obtain ⟨a', b'⟩ := p
        rw [hs] at h
        cases h
        obtain ⟨h1, h2⟩ := ih xs _ _ hs
        exact ⟨by rw [h1]; rfl, by simp [h2]⟩

theorem wp_region_tail {id : Nat} {a : Act} {w : World} (r m : Nat) (S : World → Prop) {os' os ts : List Oper} (hm : P.follows .mixedOrders = true) (hos' : ops = os'.toArray) (hsp : splitN r os' = some (os, ts)) (hsz : ops.size = r + (m + 1)) (hn : Region.noSelect ops = true) (hb : canonB .any ops = true) (ht : tailB .any ops r m = true)
    (hS : S w.drew) (hc : CanonL P ops S (fun a => ∀ w, S w → wpTail P ops Q r (m + 1) a w) os a) : (Code.region id ops true).wp P Q a w := by
  obtain ⟨h1, h2⟩ := splitN_eq _ _ _ _ hsp
  refine wp_region_any hm ?_
  rw [hsz]
  refine canonT_any (F := fun a => ∀ w, S w → wpTail P ops Q r (m + 1) a w) (by omega) ht (Region.noSelect_spec hn) (fun a w hF hS => hF w hS) r (List.range r) _ a _ (by simp) (fun i hi => List.mem_range.1 hi) hS ?_ (Closed.start _ _) ?_
  · have := Left.start hb
    rw [hsz, List.range_eq_range', ← List.range'_append_1, Nat.zero_add] at this
    rw [List.range_eq_range']
    exact this
  · have h := canon_of os 0 a (fun j h => by subst hos'; rw [Nat.zero_add, h1]; simp [List.getElem?_append, h]) hc
    have e : List.range r = List.range' 0 os.length := by rw [h2, List.range_eq_range']
    rw [e]
    exact h
end
end Go.Proofs.YtdhnidmeeocajaaGreat
end
