/- A region that asks for its order, whose last operation waits for all others (by way of some): the others in one order, that one behind them, whatever it does. Of no program. No condition. -/
import Derived.Test.YtjodkgbpbibfbaaCanon
namespace Go.Proofs.Ytjodkgbpbibfbaa
open Go.RowKit

section
variable {P : Program} {ops : Array Oper} {Q : Exit → Act → World → Prop} {S : World → Prop} {F : Act → Prop}

/-- Each operation but the last one is waited for by a later one. -/
def rootB (md : Region.Mode) (ops : Array Oper) : Bool := (List.range (ops.size - 1)).all fun p => (List.range ops.size).any fun q => decide (p < q) && waits md ops q p

/-- What has come up came behind all for which it waits. -/
def Closed (md : Region.Mode) (ops : Array Oper) (listed : Array Bool) : Prop :=
  ∀ i, listed.getD i false = true → ∀ o, ops[i]? = some o → ∀ e ∈ o.after, Region.binds md e = true → listed.getD e.on false = true

theorem getD_set_true {listed : Array Bool} {i j : Nat} (h : listed.getD j false = true) : (listed.setIfInBounds i true).getD j false = true := by
  by_cases e : i = j
  · subst e
    rcases Nat.lt_or_ge i listed.size with h' | h'
    · simp [h']
    · simp [Array.getElem?_eq_none h'] at h
  · rw [getD_set_ne false e]; exact h

theorem Closed.set {md : Region.Mode} {listed : Array Bool} {j : Nat} (hc : Closed md ops listed) (hj : ∀ o, ops[j]? = some o → ∀ e ∈ o.after, Region.binds md e = true → listed.getD e.on false = true) : Closed md ops (listed.setIfInBounds j true) := by
  intro i hi o ho e he hb
  by_cases hij : j = i
  · subst hij; exact getD_set_true (hj o ho e he hb)
  · rw [getD_set_ne false hij] at hi
    exact getD_set_true (hc i hi o ho e he hb)

theorem root_all {md : Region.Mode} {listed : Array Bool} {r : Nat} (hr : r + 1 = ops.size) (hroot : rootB md ops = true) (hc : Closed md ops listed)
    (hj : ∀ o, ops[r]? = some o → ∀ e ∈ o.after, Region.binds md e = true → listed.getD e.on false = true) : ∀ n p, p < r → r - p = n → listed.getD p false = true := by
  intro n
  induction n using Nat.strongRecOn with
  | _ n ih =>
    intro p hp hn
    simp only [rootB, List.all_eq_true, List.mem_range, List.any_eq_true, Bool.and_eq_true, decide_eq_true_eq] at hroot
    obtain ⟨q, hq, hpq, hw⟩ := hroot p (by omega)
    obtain ⟨o, ho⟩ : ∃ o, ops[q]? = some o := ⟨_, Array.getElem?_eq_getElem hq⟩
    obtain ⟨e, he, hb, rfl⟩ := (waits_iff ho).1 hw
    by_cases e2 : q = r
    · subst e2; exact hj o ho e he hb
    · exact hc q (ih (r - q) (by omega) q (by omega) rfl) o ho e he hb

theorem canonR_any {md : Region.Mode} {r : Nat} (hr : r + 1 = ops.size) (hroot : rootB md ops = true) (hsel : ∀ (j : Nat) (o : Oper) cs b, ops[j]? = some o → o.op ≠ .select cs b)
    (hF : ∀ a w, F a → S w → wpOp P ops Q r (fun a w => Q .normal a w) a w) :
    ∀ (n : Nat) (is : List Nat) (listed : Array Bool) (a : Act) (w : World), is.length = n → S w → Left md ops listed (is ++ [r]) → Closed md ops listed → Canon P ops S F is a → wpAny P md ops Q (n + 1) listed a w := by
  intro n
  induction n with
  | zero =>
    intro is listed a w hl hS hv hcl hc
    obtain rfl : is = [] := List.eq_nil_of_length_eq_zero hl
    refine ⟨fun h0 => ?_, fun j hj => ?_⟩
    · have := hv.head; rw [h0] at this; simp at this
    · have hjr : j = r := by simpa using hv.here j (mem_ready.1 hj).1
      subst hjr
      refine wpOp_mono (fun a w h => ?_) (hF a w hc hS)
      refine ⟨?_, h⟩
      have hv2 := Left.take (pre := []) (post := []) hv
      rw [List.eq_nil_iff_forall_not_mem]
      intro k hk
      have := hv2.here k (mem_ready.1 hk).1
      simp at this
  | succ n ih =>
    intro is listed a w hl hS hv hcl hc
    refine ⟨fun h0 => ?_, fun j hj => ?_⟩
    · cases is with
      | nil => simp at hl
      | cons i is => have := Left.head (i := i) (is := is ++ [r]) hv; rw [h0] at this; simp at this
    · obtain ⟨hun, oj, hoj, hall⟩ := mem_ready.1 hj
      have hall2 : ∀ o, ops[j]? = some o → ∀ e ∈ o.after, Region.binds md e = true → listed.getD e.on false = true := fun o ho => by rw [hoj] at ho; cases ho; exact hall
      rcases List.mem_append.1 (hv.here j hun) with hm | hm
      · obtain ⟨pre, post, rfl⟩ := List.append_of_mem hm
        have hv' : Left md ops listed (pre ++ j :: (post ++ [r])) := by simpa using hv
        have hap : ∀ p ∈ pre, apartB ops p j = true := by
          intro p hp
          have h1 := (List.pairwise_append.1 hv'.pair).2.2 p hp j List.mem_cons_self
          rcases h1.2 with h2 | h2
          · exfalso
            obtain ⟨e, he, hb, rfl⟩ := (waits_iff hoj).1 h2
            exact unlisted_ne (hv'.un e.on (List.mem_append_left _ hp)) (hall e he hb)
          · exact h2
        obtain ⟨o, v, ho, hd, hrest⟩ := move_ hsel pre a hap hc
        refine hd.wpOp ho hS fun w' hS' => ih _ _ _ _ (by simp at hl ⊢; omega) hS' ?_ (hcl.set hall2) hrest
        have := hv'.take
        simpa using this
      · exfalso
        obtain rfl : j = r := by simpa using hm
        cases is with
        | nil => simp at hl
        | cons i is =>
          have hi : i < ops.size := by
            obtain ⟨o, ho⟩ := hv.there i (by simp)
            exact (Array.getElem?_eq_some_iff.1 ho).1
          have hne : i ≠ j := by
            have := hv.nodup
            simp only [List.cons_append, List.nodup_cons, List.mem_append, List.mem_singleton, not_or] at this
            exact this.1.2
          have h1 := root_all hr hroot hcl hall2 (j - i) i (by omega) rfl
          exact unlisted_ne (hv.un i (by simp)) h1

theorem Closed.start (md : Region.Mode) (n : Nat) : Closed md ops (Array.replicate n false) := by
  intro i hi
  rcases Nat.lt_or_ge i n with h | h
  · simp [h] at hi
  · simp [Nat.not_lt.2 h] at hi

/-- A list without its last one, and that one. -/
def splitLast {α : Type} : List α → Option (List α × α)
  | [] => none
  | x :: xs => match splitLast xs with
    | none => some ([], x)
    | some (l, y) => some (x :: l, y)
theorem splitLast_eq {α : Type} : ∀ (xs l : List α) (y : α), splitLast xs = some (l, y) → xs = l ++ [y] := by
  intro xs
  induction xs with
  | nil => intro l y h; cases h
  | cons x xs ih =>
    intro l y h
    unfold splitLast at h
    cases hs : splitLast xs with
    | none =>
      rw [hs] at h
      cases h
      cases xs with
      | nil => rfl
      | cons z zs => unfold splitLast at hs; split at hs <;> cases hs
    | some p =>
      obtain ⟨l', y'⟩ := p
      rw [hs] at h
      cases h
      rw [ih l' y hs]; rfl

theorem wp_region_root {id : Nat} {a : Act} {w : World} (S : World → Prop) {os' os : List Oper} {o : Oper} (hm : P.follows .mixedOrders = true) (hos' : ops = os'.toArray) (hsp : splitLast os' = some (os, o)) (hn : Region.noSelect ops = true) (hb : canonB .any ops = true) (hroot : rootB .any ops = true)
    (hS : S w.drew) (hc : CanonL P ops S (fun a => ∀ w, S w → wpOp P ops Q os.length (fun a w => Q .normal a w) a w) os a) : (Code.region id ops true).wp P Q a w := by
  have hos : ops = (os ++ [o]).toArray := by rw [hos', splitLast_eq _ _ _ hsp]
  have hsz : ops.size = os.length + 1 := by subst hos; simp
  refine wp_region_any hm ?_
  rw [hsz]
  refine canonR_any (F := fun a => ∀ w, S w → wpOp P ops Q os.length (fun a w => Q .normal a w) a w) (r := os.length) hsz.symm hroot (Region.noSelect_spec hn) (fun a w hF hS => hF w hS) os.length (List.range os.length) _ a _ (by simp) hS ?_ (Closed.start _ _) ?_
  · have := Left.start hb
    rw [hsz, List.range_succ] at this
    exact this
  · have h := canon_of os 0 a (fun j h => by subst hos; rw [Nat.zero_add]; simp [List.getElem?_append, h]) hc
    rw [List.range_eq_range']
    simpa using h
end
end Go.Proofs.Ytjodkgbpbibfbaa
