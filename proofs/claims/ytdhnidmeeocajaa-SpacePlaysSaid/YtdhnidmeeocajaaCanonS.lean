/- As CanonT: a region that asks for its order, with one operation that waits for all ahead of it, and for which all behind it wait: those ahead in one order, then that one, whatever it does, then those behind it in one order, in the worlds that meet another condition. Of no program. No condition. -/
import Derived.Test.YtdhnidmeeocajaaCanonT
namespace Go.Proofs.Ytdhnidmeeocajaa
open Go.RowKit

section
variable {P : Program} {ops : Array Oper} {Q : Exit → Act → World → Prop} {S : World → Prop} {F : Act → Prop}
/-- Each of the first r is waited for by a later one, the r-th one at most; each behind the r-th one waits for one ahead of it, the r-th one at least. -/
def stageB (md : Region.Mode) (ops : Array Oper) (r m : Nat) : Bool :=
  (List.range r).all (fun p => (List.range (r + 1)).any fun q => decide (p < q) && waits md ops q p) && (List.range m).all (fun k => (List.range (k + 1)).any fun d => waits md ops (r + k + 1) (r + d))
/-- What stands behind the r-th operation. -/
def Behind (P : Program) (ops : Array Oper) (Q : Exit → Act → World → Prop) (ts : List Nat) (a : Act) (w : World) : Prop :=
  ∃ S2 : World → Prop, S2 w ∧ Canon P ops S2 (fun a => ∀ w, S2 w → Q .normal a w) ts a
theorem stage_not {md : Region.Mode} {listed : Array Bool} {r m : Nat} (hroot : (List.range m).all (fun k => (List.range (k + 1)).any fun d => waits md ops (r + k + 1) (r + d)) = true) (hc : Closed md ops listed) (hsz : r + m < ops.size) :
    ∀ n j, j - r = n → r < j → j ≤ r + m → (∀ o, ops[j]? = some o → ∀ e ∈ o.after, Region.binds md e = true → listed.getD e.on false = true) → listed.getD r false = true := by
  intro n
  induction n using Nat.strongRecOn with
  | _ n ih =>
    intro j hn hj hjm hall
    have hroot' := hroot
    simp only [List.all_eq_true, List.mem_range, List.any_eq_true] at hroot'
    obtain ⟨d, hd, hw⟩ := hroot' (j - r - 1) (by omega)
    rw [show r + (j - r - 1) + 1 = j by omega] at hw
    obtain ⟨o, ho⟩ : ∃ o, ops[j]? = some o := ⟨_, Array.getElem?_eq_getElem (show j < ops.size by omega)⟩
    obtain ⟨e, he, hb, he2⟩ := (waits_iff ho).1 hw
    have h3 := hall o ho e he hb
    rw [he2] at h3
    rcases Nat.eq_zero_or_pos d with rfl | hpos
    · exact h3
    · exact ih (r + d - r) (by omega) (r + d) rfl (by omega) (by omega) fun o' ho' e' he' hb' => hc (r + d) h3 o' ho' e' he' hb'
theorem canonS_any {md : Region.Mode} {r m : Nat} (hr : r + m < ops.size) (ht : stageB md ops r m = true) (hsel : ∀ (j : Nat) (o : Oper) cs b, ops[j]? = some o → o.op ≠ .select cs b)
    (hF : ∀ a w, F a → S w → wpOp P ops Q r (Behind P ops Q (List.range' (r + 1) m)) a w) :
    ∀ (n : Nat) (is : List Nat) (listed : Array Bool) (a : Act) (w : World), is.length = n → (∀ i ∈ is, i < r) → S w → Left md ops listed (is ++ List.range' r (m + 1)) → Closed md ops listed → Canon P ops S F is a → wpAny P md ops Q (n + (m + 1)) listed a w := by
  simp only [stageB, Bool.and_eq_true] at ht
  obtain ⟨hroot, hst⟩ := ht
  have hcons : List.range' r (m + 1) = r :: List.range' (r + 1) m := List.range'_succ ..
  have hpick : ∀ (is : List Nat) (listed : Array Bool), Left md ops listed (is ++ List.range' r (m + 1)) → Closed md ops listed → ∀ j, j ∈ Region.ready md ops listed → j ∈ is ∨ j = r := by
    intro is listed hv hcl j hj
    obtain ⟨hun, oj, hoj, hall⟩ := mem_ready.1 hj
    have hall2 : ∀ o, ops[j]? = some o → ∀ e ∈ o.after, Region.binds md e = true → listed.getD e.on false = true := fun o ho => by rw [hoj] at ho; cases ho; exact hall
    rcases List.mem_append.1 (hv.here j hun) with hm | hm
    · exact .inl hm
    · have hjm : r ≤ j ∧ j < r + (m + 1) := by simp [List.mem_range'_1] at hm; omega
      rcases Nat.eq_or_lt_of_le hjm.1 with h1 | h1
      · exact .inr h1.symm
      · exfalso
        have h3 := stage_not hst hcl hr (j - r) j rfl h1 (by omega) hall2
        exact unlisted_ne (hv.un r (List.mem_append_right _ (by simp))) h3
  intro n
  induction n with
  | zero =>
    intro is listed a w hl hlt hS hv hcl hc
    obtain rfl : is = [] := List.eq_nil_of_length_eq_zero hl
    rw [Nat.zero_add]
    have hv0 : Left md ops listed (r :: List.range' (r + 1) m) := by rw [← hcons]; exact hv
    refine ⟨fun h0 => ?_, fun j hj => ?_⟩
    · have := hv0.head; rw [h0] at this; simp at this
    · have hjr : j = r := by
        rcases hpick [] listed hv hcl j hj with h | h
        · cases h
        · exact h
      subst hjr
      refine wpOp_mono (fun a w ⟨S2, h1, h2⟩ => ?_) (hF a w hc hS)
      exact canon_any hsel (fun a w hF hS => hF w hS) m _ _ _ _ (by simp) h1 (Left.take (pre := []) hv0) h2
  | succ n ih =>
    intro is listed a w hl hlt hS hv hcl hc
    rw [show n + 1 + (m + 1) = (n + (m + 1)) + 1 by omega]
    refine ⟨fun h0 => ?_, fun j hj => ?_⟩
    · cases is with
      | nil => simp at hl
      | cons i is => have := Left.head (i := i) (is := is ++ List.range' r (m + 1)) hv; rw [h0] at this; simp at this
    · obtain ⟨hun, oj, hoj, hall⟩ := mem_ready.1 hj
      have hall2 : ∀ o, ops[j]? = some o → ∀ e ∈ o.after, Region.binds md e = true → listed.getD e.on false = true := fun o ho => by rw [hoj] at ho; cases ho; exact hall
      rcases hpick is listed hv hcl j hj with hm | rfl
      · obtain ⟨pre, post, rfl⟩ := List.append_of_mem hm
        have hv' : Left md ops listed (pre ++ j :: (post ++ List.range' r (m + 1))) := by simpa using hv
        have hap : ∀ p ∈ pre, apartB ops p j = true := by
          intro p hp
          have h1 := (List.pairwise_append.1 hv'.pair).2.2 p hp j List.mem_cons_self
          rcases h1.2 with h2 | h2
          · exfalso
            obtain ⟨e, he, hb, rfl⟩ := (waits_iff hoj).1 h2
            exact unlisted_ne (hv'.un e.on (List.mem_append_left _ hp)) (hall e he hb)
          · exact h2
        obtain ⟨o, v, ho, hd, hrest⟩ := move_ hsel pre a hap hc
        refine hd.wpOp ho hS fun w' hS' => ih _ _ _ _ (by simp at hl ⊢; omega) (fun i hi => hlt i (by rcases List.mem_append.1 hi with h | h; exact List.mem_append_left _ h; exact List.mem_append_right _ (List.mem_cons_of_mem _ h))) hS' ?_ (hcl.set hall2) hrest
        have := hv'.take
        simpa using this
      · exfalso
        cases is with
        | nil => simp at hl
        | cons i is =>
          have h2 := tail_all (by omega) hroot hcl hall2 (j - i) i (hlt i (by simp)) rfl
          exact unlisted_ne (hv.un i (by simp)) h2
theorem canon_mono {G : Act → Prop} (h : ∀ a, F a → G a) : ∀ (is : List Nat) (a : Act), Canon P ops S F is a → Canon P ops S G is a := by
  intro is
  induction is with
  | nil => intro a hc; exact h a hc
  | cons i is ih =>
    intro a hc
    obtain ⟨o, v, h1, h2, h3⟩ := hc
    exact ⟨o, v, h1, h2, ih _ h3⟩
/-- The same, over the operations themselves. -/
theorem wp_region_stage {id : Nat} {a : Act} {w : World} (r m : Nat) (S : World → Prop) {os' os ts : List Oper} {o : Oper} (hm : P.follows .mixedOrders = true) (hos' : ops = os'.toArray) (hsp : splitN r os' = some (os, o :: ts)) (hsz : ops.size = r + (m + 1)) (hn : Region.noSelect ops = true) (hb : canonB .any ops = true) (ht : stageB .any ops r m = true)
    (hS : S w.drew) (hc : CanonL P ops S (fun a => ∀ w, S w → wpOp P ops Q r (fun a w => ∃ S2 : World → Prop, S2 w ∧ CanonL P ops S2 (fun a => ∀ w, S2 w → Q .normal a w) ts a) a w) os a) : (Code.region id ops true).wp P Q a w := by
  obtain ⟨h1, h2⟩ := splitN_eq _ _ _ _ hsp
  have htl : ts.length = m := by
    rw [hos', h1] at hsz
    simp at hsz
    omega
  refine wp_region_any hm ?_
  rw [hsz]
  refine canonS_any (F := fun a => ∀ w, S w → wpOp P ops Q r (Behind P ops Q (List.range' (r + 1) m)) a w) (by omega) ht (Region.noSelect_spec hn) (fun a w hF hS => hF w hS) r (List.range r) _ a _ (by simp) (fun i hi => List.mem_range.1 hi) hS ?_ (Closed.start _ _) ?_
  · have := Left.start hb
    rw [hsz, List.range_eq_range', ← List.range'_append_1, Nat.zero_add] at this
    rw [List.range_eq_range']
    exact this
  · have h := canon_of os 0 a (fun j h => by subst hos'; rw [Nat.zero_add, h1]; simp [List.getElem?_append, h]) hc
    have e : List.range r = List.range' 0 os.length := by rw [h2, List.range_eq_range']
    rw [e]
    refine canon_mono (fun a h w hw => wpOp_mono (fun a w ⟨S2, g1, g2⟩ => ⟨S2, g1, ?_⟩) (h w hw)) _ _ h
    have := canon_of ts (r + 1) a (fun j hj => by
      subst hos'
      rw [h1]
      simp only [List.getElem?_toArray]
      rw [List.getElem?_append_right (by omega), show r + 1 + j - os.length = j + 1 by omega]
      simp [hj]) g2
    rw [htl] at this
    exact this
end
end Go.Proofs.Ytdhnidmeeocajaa
