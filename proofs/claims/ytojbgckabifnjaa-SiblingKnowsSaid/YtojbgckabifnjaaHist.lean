/- What is known of all that was done: replicas' registers as they come from what was written, dropped, joined. Of no program. No condition. -/
import Derived.Test.YtojbgckabifnjaaRing
import Derived.Test.YtojbgckabifnjaaSibG
namespace Go.Proofs.Ytojbgckabifnjaa
open Go.RowKit

/-- Something that was done: its dot and its value, whether it has one, what it named. -/
structure EvI where
  x : SibI
  is : Bool
  o : List DotI
/-- One of several is another one now. -/
def setF {α : Type} (F : Nat → α) (i : Nat) (a : α) : Nat → α := fun k => if k = i then a else F k
theorem setF_at {α : Type} (F : Nat → α) (i : Nat) (a : α) : setF F i a i = a := if_pos rfl
theorem setF_ne {α : Type} {F : Nat → α} {i k : Nat} {a : α} (h : k ≠ i) : setF F i a k = F k := if_neg h
/-- A dot is known. -/
def kn (f : Nat → Nat) (d : DotI) : Prop := has8 f d.r d.n = true
theorem kn_iff {f : Nat → Nat} {d : DotI} : kn f d ↔ d.r < 8 ∧ 1 ≤ d.n ∧ d.n ≤ 65535 ∧ d.n ≤ f d.r := by
  unfold kn has8 okD
  simp only [Bool.and_eq_true, decide_eq_true_eq, and_assoc]
theorem kn_no {f : Nat → Nat} {d : DotI} : has8 f d.r d.n = false ↔ ¬ kn f d := by unfold kn; simp
theorem kn_jn {f g : Nat → Nat} {d : DotI} : kn (jn8 f g) d ↔ kn f d ∨ kn g d := by
  unfold kn; rw [has_join, Bool.or_eq_true]

/-- Events, and the registers of four replicas that come from them. -/
structure Hist (E : List EvI) (F : Nat → Nat → Nat) (L : Nat → List SibI) : Prop where
  uniq : ∀ e ∈ E, ∀ e' ∈ E, e.x.d = e'.x.d → e = e'
  own : ∀ e ∈ E, e.x.r < 4 ∧ 1 ≤ e.x.n ∧ e.x.n ≤ 65535 ∧ e.x.n ≤ F e.x.r e.x.r
  low : ∀ i, i < 4 → ∀ r, r < 4 → F i r ≤ F r r
  named : ∀ e ∈ E, ∀ d ∈ e.o, (∃ e' ∈ E, e'.x.d = d) ∧ ∀ i, i < 4 → kn (F i) e.x.d → kn (F i) d
  ok : ∀ i, i < 4 → okR (F i) (L i) = true
  mem : ∀ i, i < 4 → ∀ x, x ∈ L i ↔ (∃ e ∈ E, e.is = true ∧ e.x = x) ∧ kn (F i) x.d ∧ ∀ e ∈ E, kn (F i) e.x.d → x.d ∉ e.o

theorem hist0 : Hist [] (fun _ _ => 0) (fun _ => []) where
  uniq := fun _ h => by cases h
  own := fun _ h => by cases h
  low := fun _ _ _ _ => Nat.le_refl _
  named := fun _ h => by cases h
  ok := fun _ _ => by decide
  mem := fun i _ x => ⟨fun h => absurd h List.not_mem_nil, fun ⟨⟨_, h, _⟩, _⟩ => absurd h List.not_mem_nil⟩

/-- Each dot has one value. -/
theorem vals_of {E : List EvI} (h : ∀ e ∈ E, ∀ e' ∈ E, e.x.d = e'.x.d → e = e') : ∃ V : DotI → List UInt8, ∀ e ∈ E, e.x.s = V e.x.d := by
  refine ⟨fun d => match E.find? (fun e => decide (e.x.d = d)) with | some e => e.x.s | none => [], fun e he => ?_⟩
  cases hf : E.find? (fun e' => decide (e'.x.d = e.x.d)) with
  | none =>
    have := List.find?_eq_none.1 hf e he
    simp at this
  | some e' =>
    have h1 := List.find?_some hf
    have h2 := List.mem_of_find?_eq_some hf
    simp only [decide_eq_true_eq] at h1
    have := h e he e' h2 h1.symm
    subst this
    simp only [hf]
theorem Hist.vals {E : List EvI} {F : Nat → Nat → Nat} {L : Nat → List SibI} (h : Hist E F L) : ∃ V : DotI → List UInt8, ∀ i, i < 4 → ValsBy V (L i) := by
  obtain ⟨V, hV⟩ := vals_of h.uniq
  exact ⟨V, fun i hi x hx => by
    obtain ⟨⟨e, he, _, rfl⟩, _⟩ := (h.mem i hi x).1 hx
    exact hV e he⟩
/-- Where the contexts are the same, the siblings are. -/
theorem Hist.same {E : List EvI} {F : Nat → Nat → Nat} {L : Nat → List SibI} (h : Hist E F L) {i k : Nat} (hi : i < 4) (hk : k < 4) (he : eq8 (F i) (F k) = true) : L i = L k := by
  have e8 := (eq8_iff _ _).1 he
  have hkn : ∀ d, kn (F i) d ↔ kn (F k) d := fun d => by
    rw [kn_iff, kn_iff]
    constructor
    · rintro ⟨h1, h2, h3, h4⟩; exact ⟨h1, h2, h3, by rw [← e8 _ h1]; exact h4⟩
    · rintro ⟨h1, h2, h3, h4⟩; exact ⟨h1, h2, h3, by rw [e8 _ h1]; exact h4⟩
  refine ord_ext (okR_ord (h.ok i hi)).2 (okR_ord (h.ok k hk)).2 fun x => ?_
  rw [h.mem i hi, h.mem k hk]
  constructor
  · rintro ⟨h1, h2, h3⟩
    exact ⟨h1, (hkn _).1 h2, fun e he hke => h3 e he ((hkn _).2 hke)⟩
  · rintro ⟨h1, h2, h3⟩
    exact ⟨h1, (hkn _).2 h2, fun e he hke => h3 e he ((hkn _).1 hke)⟩
/-- A join. -/
theorem Hist.join {E : List EvI} {F : Nat → Nat → Nat} {L : Nat → List SibI} (h : Hist E F L) {i j : Nat} (hi : i < 4) (hj : j < 4) (h8 : (rstay (F i) (F j) (L i) (L j)).length ≤ 8) :
    Hist E (setF F i (jn8 (F i) (F j))) (setF L i (rstay (F i) (F j) (L i) (L j))) := by
  obtain ⟨V, hV⟩ := h.vals
  have hle : ∀ k, k < 4 → F k k ≤ setF F i (jn8 (F i) (F j)) k k := fun k hk => by
    by_cases e : k = i
    · subst e; rw [setF_at, jn8_at]; omega
    · rw [setF_ne e]; omega
  have hup : ∀ k, k < 4 → setF F i (jn8 (F i) (F j)) k k = F k k := fun k hk => by
    by_cases e : k = i
    · subst e; rw [setF_at, jn8_at]; have := h.low j hj k hk; omega
    · rw [setF_ne e]
  refine ⟨h.uniq, fun e he => ?_, fun k hk r hr => ?_, fun e he d hd => ⟨(h.named e he d hd).1, fun k hk hke => ?_⟩, fun k hk => ?_, fun k hk x => ?_⟩
  · obtain ⟨h1, h2, h3, h4⟩ := h.own e he
    exact ⟨h1, h2, h3, Nat.le_trans h4 (hle _ h1)⟩
  · rw [hup r hr]
    by_cases e : k = i
    · subst e; rw [setF_at, jn8_at]; have := h.low k hk r hr; have := h.low j hj r hr; omega
    · rw [setF_ne e]; exact h.low k hk r hr
  · by_cases e' : k = i
    · subst e'
      rw [setF_at] at hke ⊢
      rcases kn_jn.1 hke with hke | hke
      · exact kn_jn.2 (.inl ((h.named e he d hd).2 _ hi hke))
      · exact kn_jn.2 (.inr ((h.named e he d hd).2 _ hj hke))
    · rw [setF_ne e'] at hke ⊢
      exact (h.named e he d hd).2 k hk hke
  · by_cases e : k = i
    · subst e; rw [setF_at, setF_at]; exact okR_join (h.ok _ hi) (h.ok _ hj) h8
    · rw [setF_ne e, setF_ne e]; exact h.ok k hk
  · by_cases e : k = i
    · subst e
      rw [setF_at, setF_at, mem_rstay (hV _ hi) (hV _ hj) x]
      rw [show has8 (F j) x.r x.n = has8 (F j) x.d.r x.d.n from rfl, show has8 (F k) x.r x.n = has8 (F k) x.d.r x.d.n from rfl, kn_no, kn_no]
      constructor
      · rintro (⟨h1, h2⟩ | ⟨h1, h2⟩)
        · obtain ⟨a1, a2, a3⟩ := (h.mem k hi x).1 h1
          refine ⟨a1, kn_jn.2 (.inl a2), fun e he hke hx => ?_⟩
          rcases kn_jn.1 hke with hke | hke
          · exact a3 e he hke hx
          · rcases h2 with h2 | h2
            · exact ((h.mem j hj x).1 h2).2.2 e he hke hx
            · exact h2 ((h.named e he _ hx).2 j hj hke)
        · obtain ⟨a1, a2, a3⟩ := (h.mem j hj x).1 h1
          refine ⟨a1, kn_jn.2 (.inr a2), fun e he hke hx => ?_⟩
          rcases kn_jn.1 hke with hke | hke
          · exact h2 ((h.named e he _ hx).2 k hi hke)
          · exact a3 e he hke hx
      · rintro ⟨a1, a2, a3⟩
        have q1 : kn (F k) x.d → x ∈ L k := fun q => (h.mem k hi x).2 ⟨a1, q, fun e he hke => a3 e he (kn_jn.2 (.inl hke))⟩
        have q2 : kn (F j) x.d → x ∈ L j := fun q => (h.mem j hj x).2 ⟨a1, q, fun e he hke => a3 e he (kn_jn.2 (.inr hke))⟩
        by_cases c1 : kn (F k) x.d
        · by_cases c2 : kn (F j) x.d
          · exact .inl ⟨q1 c1, .inl (q2 c2)⟩
          · exact .inl ⟨q1 c1, .inr c2⟩
        · rcases kn_jn.1 a2 with c2 | c2
          · exact absurd c2 c1
          · exact .inr ⟨q2 c2, c1⟩
    · rw [setF_ne e, setF_ne e]; exact h.mem k hk x

/-- Something is done at a replica: its number is greater than all that are known there. -/
theorem Hist.act {E : List EvI} {F : Nat → Nat → Nat} {L : Nat → List SibI} (h : Hist E F L) {r : Nat} (hr : r < 4) {x0 : SibI} (hx1 : x0.r = r) (hx2 : x0.n = mx (F r) 8 + 1) (hmx : mx (F r) 8 < 65535) {over : List DotI} (ho : ∀ d ∈ over, ∃ y ∈ L r, y.d = d) {is : Bool}
    {M : List SibI} (hM : M = (L r).filter (fun x => !decide (x.d ∈ over)) ++ (if is then [x0] else [])) (h8 : M.length ≤ 8) :
    Hist (⟨x0, is, over⟩ :: E) (setF F r (upd8 (F r) r x0.n)) (setF L r M) := by
  have hmr : ∀ k, k < 8 → F r k ≤ mx (F r) 8 := fun k hk => mx_le (F r) 8 k hk
  have hur : ∀ k, upd8 (F r) r x0.n k = if k = r then x0.n else F r k := fun k => rfl
  have hge : ∀ k, k < 8 → F r k ≤ upd8 (F r) r x0.n k := fun k hk => by
    rw [hur]; split
    · have := hmr k hk; omega
    · omega
  -- what was known before is known now
  have knup : ∀ d, kn (F r) d → kn (upd8 (F r) r x0.n) d := fun d hd => by
    obtain ⟨h1, h2, h3, h4⟩ := kn_iff.1 hd
    exact kn_iff.2 ⟨h1, h2, h3, Nat.le_trans h4 (hge _ h1)⟩
  -- of what was done before, no more is known
  have kndn : ∀ e ∈ E, kn (upd8 (F r) r x0.n) e.x.d → kn (F r) e.x.d := fun e he hd => by
    obtain ⟨h1, h2, h3, h4⟩ := kn_iff.1 hd
    refine kn_iff.2 ⟨h1, h2, h3, ?_⟩
    rw [hur] at h4
    by_cases c : e.x.d.r = r
    · have := (h.own e he).2.2.2
      rw [show e.x.r = r from c] at this
      rw [c]; exact this
    · rw [if_neg c] at h4; exact h4
  have kn0 : kn (upd8 (F r) r x0.n) x0.d := kn_iff.2 ⟨by show x0.r < 8; omega, by show 1 ≤ x0.n; omega, by show x0.n ≤ 65535; omega, by show x0.n ≤ _; rw [hur, show x0.d.r = r from hx1, if_pos rfl]; exact Nat.le_refl _⟩
  -- nobody knows it yet
  have hnew : ∀ k, k < 4 → ¬ kn (F k) x0.d := fun k hk hd => by
    obtain ⟨_, _, _, h4⟩ := kn_iff.1 hd
    rw [show x0.d.r = r from hx1] at h4
    have h4 : x0.n ≤ F k r := h4
    have := h.low k hk r hr
    have := hmr r (by omega)
    omega
  have hne : ∀ e ∈ E, e.x.d ≠ x0.d := fun e he q => by
    have h1 := (h.own e he).2.2.2
    have e1 : e.x.r = x0.r := congrArg DotI.r q
    have e2 : e.x.n = x0.n := congrArg DotI.n q
    rw [e1, e2, hx1] at h1
    have := hmr r (by omega)
    omega
  have hoE : ∀ d ∈ over, (∃ e ∈ E, e.x.d = d) ∧ kn (F r) d := fun d hd => by
    obtain ⟨y, hy, rfl⟩ := ho d hd
    obtain ⟨⟨e, he, _, rfl⟩, h2, _⟩ := (h.mem r hr y).1 hy
    exact ⟨⟨e, he, rfl⟩, h2⟩
  have hmemM : ∀ x, x ∈ M ↔ (x ∈ L r ∧ x.d ∉ over) ∨ (is = true ∧ x = x0) := fun x => by
    rw [hM, List.mem_append, List.mem_filter]
    refine or_congr (by simp) ?_
    cases is <;> simp
  have hMr : ∀ x, x ∈ M ↔ (∃ e ∈ (⟨x0, is, over⟩ :: E : List EvI), e.is = true ∧ e.x = x) ∧ kn (upd8 (F r) r x0.n) x.d ∧ ∀ e ∈ (⟨x0, is, over⟩ :: E : List EvI), kn (upd8 (F r) r x0.n) e.x.d → x.d ∉ e.o := fun x => by
    rw [hmemM]
    constructor
    · rintro (⟨h1, h2⟩ | ⟨h1, rfl⟩)
      · obtain ⟨⟨e, he, ei, ex⟩, a2, a3⟩ := (h.mem r hr x).1 h1
        refine ⟨⟨e, List.mem_cons_of_mem _ he, ei, ex⟩, knup _ a2, fun e' he' hk' => ?_⟩
        rcases List.mem_cons.1 he' with rfl | he'
        · exact h2
        · exact a3 e' he' (kndn e' he' hk')
      · refine ⟨⟨_, List.mem_cons_self, h1, rfl⟩, kn0, fun e' he' hk' hx => ?_⟩
        rcases List.mem_cons.1 he' with rfl | he'
        · exact hnew r hr (hoE _ hx).2
        · obtain ⟨⟨e2, he2, q⟩, _⟩ := h.named e' he' _ hx
          exact hne e2 he2 q
    · rintro ⟨⟨e, he, ei, rfl⟩, a2, a3⟩
      rcases List.mem_cons.1 he with rfl | he
      · exact .inr ⟨ei, rfl⟩
      · refine .inl ⟨(h.mem r hr _).2 ⟨⟨e, he, ei, rfl⟩, kndn e he a2, fun e' he' hk' => a3 e' (List.mem_cons_of_mem _ he') (knup _ hk')⟩, a3 _ List.mem_cons_self kn0⟩
  have hord : M.Pairwise ltD := by
    rw [hM]
    refine List.pairwise_append.2 ⟨(okR_ord (h.ok r hr)).2.filter _, ?_, fun a ha b hb => ?_⟩
    · cases is <;> simp
    · cases is with
      | false => simp at hb
      | true =>
        simp only [if_true, List.mem_singleton] at hb
        subst hb
        have := (okR_ord (h.ok r hr)).1 a (List.mem_filter.1 ha).1
        obtain ⟨k1, k2, k3, k4⟩ := kn_iff.1 (show kn (F r) a.d from this)
        have k4 : a.n ≤ F r a.r := k4
        have := hmr a.r k1
        exact .inl (by omega)
  refine ⟨?_, ?_, fun k hk q hq => ?_, ?_, fun k hk => ?_, fun k hk x => ?_⟩
  · intro e he e' he' q
    rcases List.mem_cons.1 he with rfl | he <;> rcases List.mem_cons.1 he' with rfl | he'
    · rfl
    · exact absurd q.symm (hne e' he')
    · exact absurd q (hne e he)
    · exact h.uniq e he e' he' q
  · intro e he
    rcases List.mem_cons.1 he with rfl | he
    · show x0.r < 4 ∧ 1 ≤ x0.n ∧ x0.n ≤ 65535 ∧ x0.n ≤ setF F r (upd8 (F r) r x0.n) x0.r x0.r
      rw [hx1, setF_at, hur, if_pos rfl]
      exact ⟨hr, by omega, by omega, Nat.le_refl _⟩
    · obtain ⟨h1, h2, h3, h4⟩ := h.own e he
      refine ⟨h1, h2, h3, Nat.le_trans h4 ?_⟩
      by_cases c : e.x.r = r
      · rw [c, setF_at]; exact hge r (by omega)
      · rw [setF_ne c]; omega
  · by_cases c : k = r
    · subst c
      rw [setF_at]
      by_cases c2 : q = k
      · subst c2; rw [setF_at]; omega
      · rw [setF_ne c2, hur, if_neg c2]; exact h.low k hk q hq
    · rw [setF_ne c]
      by_cases c2 : q = r
      · subst c2; rw [setF_at]; exact Nat.le_trans (h.low k hk q hq) (hge q (by omega))
      · rw [setF_ne c2]; exact h.low k hk q hq
  · intro e he d hd
    rcases List.mem_cons.1 he with rfl | he
    · obtain ⟨⟨e2, he2, q⟩, hk2⟩ := hoE d hd
      refine ⟨⟨e2, List.mem_cons_of_mem _ he2, q⟩, fun k hk hke => ?_⟩
      by_cases c : k = r
      · subst c; rw [setF_at]; exact knup _ hk2
      · rw [setF_ne c] at hke; exact absurd hke (hnew k hk)
    · obtain ⟨⟨e2, he2, q⟩, h2⟩ := h.named e he d hd
      refine ⟨⟨e2, List.mem_cons_of_mem _ he2, q⟩, fun k hk hke => ?_⟩
      by_cases c : k = r
      · subst c; rw [setF_at] at hke ⊢; exact knup _ (h2 k hk (kndn e he hke))
      · rw [setF_ne c] at hke ⊢; exact h2 k hk hke
  · by_cases c : k = r
    · subst c
      rw [setF_at, setF_at]
      refine okR_of ((mx_le_iff _ _ _).2 fun j hj => ?_) h8 (fun y hy => ((hMr y).1 hy).2.1) hord
      rw [hur]; split
      · omega
      · have := hmr j hj; omega
    · rw [setF_ne c, setF_ne c]; exact h.ok k hk
  · by_cases c : k = r
    · subst c
      rw [setF_at, setF_at]; exact hMr x
    · rw [setF_ne c, setF_ne c, h.mem k hk x]
      constructor
      · rintro ⟨⟨e, he, ei, ex⟩, a2, a3⟩
        refine ⟨⟨e, List.mem_cons_of_mem _ he, ei, ex⟩, a2, fun e' he' hk' => ?_⟩
        rcases List.mem_cons.1 he' with rfl | he'
        · exact absurd hk' (hnew k hk)
        · exact a3 e' he' hk'
      · rintro ⟨⟨e, he, ei, ex⟩, a2, a3⟩
        rcases List.mem_cons.1 he with rfl | he
        · subst ex; exact absurd a2 (hnew k hk)
        · exact ⟨⟨e, he, ei, ex⟩, a2, fun e' he' hk' => a3 e' (List.mem_cons_of_mem _ he') hk'⟩
end Go.Proofs.Ytojbgckabifnjaa

