/- As CanonR, with some operations at the end that wait for one another, the first of them for all others: those others in one order, these behind them, whatever they do. Of no program. No condition. -/
import Derived.Test.YtjodkgbpbibfbaaCanonR
import Derived.Test.YtjodkgbpbibfbaaCanonQ
namespace Go.Proofs.Ytjodkgbpbibfbaa
open Go.RowKit

section
variable {P : Program} {ops : Array Oper} {Q : Exit → Act → World → Prop} {S : World → Prop} {F : Act → Prop}
/-- m operations from the r-th one on, one behind the other. -/
def wpTail (P : Program) (ops : Array Oper) (Q : Exit → Act → World → Prop) : Nat → Nat → Act → World → Prop
  | _, 0, a, w => Q .normal a w
  | r, m + 1, a, w => wpOp P ops Q r (fun a w => wpTail P ops Q (r + 1) m a w) a w
theorem wpTail.cons {r m : Nat} {a : Act} {w : World} {o : Oper} (hi : ops[r]? = some o) (hg : o.guard = none) (h : ∀ K : Act → World → Prop, (∀ a w, wpTail P ops Q (r + 1) m a w → K a w) → o.wp P a w K Q) : wpTail P ops Q r (m + 1) a w := by
  show wpOp P ops Q r _ a w
  unfold wpOp
  simp only [hi]
  rw [if_pos (by unfold Region.wanted; rw [hg])]
  exact .inl (h _ fun _ _ h => h)
theorem wpTail.done {r : Nat} {a : Act} {w : World} (h : Q .normal a w) : wpTail P ops Q r 0 a w := h
/-- Each of the first r is waited for by a later one, the r-th one at most; each of the m behind the r-th one waits for the one ahead of it. -/
def tailB (md : Region.Mode) (ops : Array Oper) (r m : Nat) : Bool :=
  (List.range r).all (fun p => (List.range (r + 1)).any fun q => decide (p < q) && waits md ops q p) && (List.range m).all (fun k => waits md ops (r + k + 1) (r + k))

theorem tail_all {md : Region.Mode} {listed : Array Bool} {r : Nat} (hr : r < ops.size) (hroot : (List.range r).all (fun p => (List.range (r + 1)).any fun q => decide (p < q) && waits md ops q p) = true) (hc : Closed md ops listed)
    (hj : ∀ o, ops[r]? = some o → ∀ e ∈ o.after, Region.binds md e = true → listed.getD e.on false = true) : ∀ n p, p < r → r - p = n → listed.getD p false = true := by
  intro n
  induction n using Nat.strongRecOn with
  | _ n ih =>
    intro p hp hn
    have hroot' := hroot
    simp only [List.all_eq_true, List.mem_range, List.any_eq_true, Bool.and_eq_true, decide_eq_true_eq] at hroot'
    obtain ⟨q, hq, hpq, hw⟩ := hroot' p hp
    obtain ⟨o, ho⟩ : ∃ o, ops[q]? = some o := ⟨_, Array.getElem?_eq_getElem (show q < ops.size by omega)⟩
    obtain ⟨e, he, hb, rfl⟩ := (waits_iff ho).1 hw
    by_cases e2 : q = r
    · subst e2; exact hj o ho e he hb
    · exact hc q (ih (r - q) (by omega) q (by omega) rfl) o ho e he hb

theorem chain_any {md : Region.Mode} : ∀ (m r : Nat) (listed : Array Bool) (a : Act) (w : World), (∀ k, k + 1 < m → waits md ops (r + k + 1) (r + k) = true) → Left md ops listed (List.range' r m) → wpTail P ops Q r m a w → wpAny P md ops Q m listed a w := by
  intro m
  induction m with
  | zero =>
    intro r listed a w _ hv h
    refine ⟨?_, h⟩
    rw [List.eq_nil_iff_forall_not_mem]
    intro k hk
    have := hv.here k (mem_ready.1 hk).1
    simp at this
  | succ m ih =>
    intro r listed a w hch hv h
    have hcons : List.range' r (m + 1) = r :: List.range' (r + 1) m := List.range'_succ ..
    refine ⟨fun h0 => ?_, fun j hj => ?_⟩
    · rw [hcons] at hv
      have := hv.head; rw [h0] at this; simp at this
    · obtain ⟨hun, oj, hoj, hall⟩ := mem_ready.1 hj
      have hm := hv.here j hun
      have hjr : j = r := by
        rcases Nat.eq_or_lt_of_le (show r ≤ j by simp [List.mem_range'_1] at hm; omega) with h1 | h1
        · exact h1.symm
        · exfalso
          have hjm : j < r + (m + 1) := by simp [List.mem_range'_1] at hm; omega
          have hw := hch (j - r - 1) (by omega)
          rw [show r + (j - r - 1) + 1 = j by omega] at hw
          obtain ⟨e, he, hb, he2⟩ := (waits_iff hoj).1 hw
          have h3 := hall e he hb
          rw [he2] at h3
          exact unlisted_ne (hv.un (r + (j - r - 1)) (by simp [List.mem_range'_1]; omega)) h3
      subst hjr
      refine wpOp_mono (fun a w h => ih (j + 1) _ a w (fun k hk => ?_) ?_ h) h
      · have := hch (k + 1) (by omega)
        rwa [show j + (k + 1) + 1 = j + 1 + k + 1 by omega, show j + (k + 1) = j + 1 + k by omega] at this
      · rw [hcons] at hv
        exact Left.take (pre := []) hv

theorem canonT_any {md : Region.Mode} {r m : Nat} (hr : r + m < ops.size) (ht : tailB md ops r m = true) (hsel : ∀ (j : Nat) (o : Oper) cs b, ops[j]? = some o → o.op ≠ .select cs b)
    (hF : ∀ a w, F a → S w → wpTail P ops Q r (m + 1) a w) :
    ∀ (n : Nat) (is : List Nat) (listed : Array Bool) (a : Act) (w : World), is.length = n → (∀ i ∈ is, i < r) → S w → Left md ops listed (is ++ List.range' r (m + 1)) → Closed md ops listed → Canon P ops S F is a → wpAny P md ops Q (n + (m + 1)) listed a w := by
  simp only [tailB, Bool.and_eq_true] at ht
  obtain ⟨hroot, hch⟩ := ht
  simp only [List.all_eq_true, List.mem_range] at hch
  intro n
  induction n with
  | zero =>
    intro is listed a w hl hlt hS hv hcl hc
    obtain rfl : is = [] := List.eq_nil_of_length_eq_zero hl
    rw [Nat.zero_add]
    exact chain_any (m + 1) r listed a w (fun k hk => hch k (by omega)) hv (hF a w hc hS)
  | succ n ih =>
    intro is listed a w hl hlt hS hv hcl hc
    rw [show n + 1 + (m + 1) = (n + (m + 1)) + 1 by omega]
    refine ⟨fun h0 => ?_, fun j hj => ?_⟩
    · cases is with
      | nil => simp at hl
      | cons i is => have := Left.head (i := i) (is := is ++ List.range' r (m + 1)) hv; rw [h0] at this; simp at this
    · obtain ⟨hun, oj, hoj, hall⟩ := mem_ready.1 hj
      have hall2 : ∀ o, ops[j]? = some o → ∀ e ∈ o.after, Region.binds md e = true → listed.getD e.on false = true := fun o ho => by rw [hoj] at ho; cases ho; exact hall
      rcases List.mem_append.1 (hv.here j hun) with hm | hm
      · obtain ⟨pre, post, rfl⟩ := List.append_of_mem hm
        have hv' : Left md ops listed (pre ++ j :: (post ++ List.range' r (m + 1))) := by simpa using hv
        have hap : ∀ p ∈ pre, apartB ops p j = true := by
          intro p hp
          have h1 := (List.pairwise_append.1 hv'.pair).2.2 p hp j List.mem_cons_self
          rcases h1.2 with h2 | h2
          · exfalso
            obtain ⟨e, he, hb, rfl⟩ := (waits_iff hoj).1 h2
            exact unlisted_ne (hv'.un e.on (List.mem_append_left _ hp)) (hall e he hb)
          · exact h2
        obtain ⟨o, v, ho, hd, hrest⟩ := move_ hsel pre a hap hc
        refine hd.wpOp ho hS fun w' hS' => ih _ _ _ _ (by simp at hl ⊢; omega) (fun i hi => hlt i (by rcases List.mem_append.1 hi with h | h; exact List.mem_append_left _ h; exact List.mem_append_right _ (List.mem_cons_of_mem _ h))) hS' ?_ (hcl.set hall2) hrest
        have := hv'.take
        simpa using this
      · exfalso
        have hjm : r ≤ j ∧ j < r + (m + 1) := by simp [List.mem_range'_1] at hm; omega
        rcases Nat.eq_or_lt_of_le hjm.1 with h1 | h1
        · subst h1
          cases is with
          | nil => simp at hl
          | cons i is =>
            have h2 := tail_all (by omega) hroot hcl hall2 (r - i) i (hlt i (by simp)) rfl
            exact unlisted_ne (hv.un i (by simp)) h2
        · have hw := hch (j - r - 1) (by omega)
          rw [show r + (j - r - 1) + 1 = j by omega] at hw
          obtain ⟨e, he, hb, he2⟩ := (waits_iff hoj).1 hw
          have h3 := hall e he hb
          rw [he2] at h3
          exact unlisted_ne (hv.un (r + (j - r - 1)) (List.mem_append_right _ (by simp [List.mem_range'_1]; omega))) h3

/-- The first k of a list, and the others. -/
def splitN {α : Type} : Nat → List α → Option (List α × List α)
  | 0, l => some ([], l)
  | _ + 1, [] => none
  | k + 1, x :: xs => match splitN k xs with
    | none => none
    | some (a, b) => some (x :: a, b)
theorem splitN_eq {α : Type} : ∀ (k : Nat) (l a b : List α), splitN k l = some (a, b) → l = a ++ b ∧ a.length = k := by
  intro k
  induction k with
  | zero => intro l a b h; cases h; exact ⟨rfl, rfl⟩
  | succ k ih =>
    intro l a b h
    cases l with
    | nil => cases h
    | cons x xs =>
      unfold splitN at h
      cases hs : splitN k xs with
      | none => rw [hs] at h; cases h
      | some p =>
        obtain ⟨a', b'⟩ := p
        rw [hs] at h
        cases h
        obtain ⟨h1, h2⟩ := ih xs _ _ hs
        exact ⟨by rw [h1]; rfl, by simp [h2]⟩

theorem wp_region_tail {id : Nat} {a : Act} {w : World} (r m : Nat) (S : World → Prop) {os' os ts : List Oper} (hm : P.follows .mixedOrders = true) (hos' : ops = os'.toArray) (hsp : splitN r os' = some (os, ts)) (hsz : ops.size = r + (m + 1)) (hn : Region.noSelect ops = true) (hb : canonB .any ops = true) (ht : tailB .any ops r m = true)
    (hS : S w.drew) (hc : CanonL P ops S (fun a => ∀ w, S w → wpTail P ops Q r (m + 1) a w) os a) : (Code.region id ops true).wp P Q a w := by
  obtain ⟨h1, h2⟩ := splitN_eq _ _ _ _ hsp
  refine wp_region_any hm ?_
  rw [hsz]
  refine canonT_any (F := fun a => ∀ w, S w → wpTail P ops Q r (m + 1) a w) (by omega) ht (Region.noSelect_spec hn) (fun a w hF hS => hF w hS) r (List.range r) _ a _ (by simp) (fun i hi => List.mem_range.1 hi) hS ?_ (Closed.start _ _) ?_
  · have := Left.start hb
    rw [hsz, List.range_eq_range', ← List.range'_append_1, Nat.zero_add] at this
    rw [List.range_eq_range']
    exact this
  · have h := canon_of os 0 a (fun j h => by subst hos'; rw [Nat.zero_add, h1]; simp [List.getElem?_append, h]) hc
    have e : List.range r = List.range' 0 os.length := by rw [h2, List.range_eq_range']
    rw [e]
    exact h
end
end Go.Proofs.Ytjodkgbpbibfbaa
