/- What is known at each replica, as a list; the register of what is known. Of no program. No condition. -/
import Derived.Test.YtojbgckabifnjaaHist
namespace Go.Proofs.Ytojbgckabifnjaa
open Go.RowKit

/-- What is known is closed: each number of a context is an event's; no number is greater than how many acts there were. -/
structure HistC (E : List EvI) (F : Nat → Nat → Nat) (k : Nat) : Prop where
  tight : ∀ i, i < 4 → ∀ r, r < 8 → F i r = 0 ∨ ∃ e ∈ E, e.x.r = r ∧ e.x.n = F i r
  most : ∀ i, i < 4 → ∀ r, r < 8 → F i r ≤ k
/-- A list of what is known at a replica. -/
structure KnOf (E : List EvI) (f : Nat → Nat) (P : List EvI) : Prop where
  mem : ∀ e, e ∈ P ↔ e ∈ E ∧ kn f e.x.d
  one : P.Pairwise (fun a b => a.x.d ≠ b.x.d)
/-- What is known, and one event more. -/
def bothK (P Q : List EvI) : List EvI := P ++ Q.filter (fun e => !decide (e.x.d ∈ P.map (fun e => e.x.d)))
/-- A context of what is known. -/
def ctxK (f : Nat → Nat) (P : List EvI) : Nat → Nat := P.foldl (fun f e => if f e.x.r < e.x.n then upd8 f e.x.r e.x.n else f) f
/-- Is it seen: written, and named by nothing? -/
def seenK (P : List EvI) (e : EvI) : Bool := e.is && !decide (∃ e' ∈ P, e.x.d ∈ e'.o)
/-- The register's siblings of what is known. -/
def sibK (P : List EvI) (l : List SibI) (Q : List EvI) : List SibI := ((Q.filter (seenK P)).map EvI.x).foldl putL l
theorem histC0 (E : List EvI) : HistC E (fun _ _ => 0) 0 := ⟨fun _ _ _ _ => .inl rfl, fun _ _ _ _ => Nat.le_refl _⟩
theorem HistC.up {E : List EvI} {F : Nat → Nat → Nat} {k : Nat} (h : HistC E F k) : HistC E F (k + 1) := ⟨h.tight, fun i hi r hr => Nat.le_succ_of_le (h.most i hi r hr)⟩
theorem HistC.top {E : List EvI} {F : Nat → Nat → Nat} {k : Nat} (h : HistC E F k) {i : Nat} (hi : i < 4) : mx (F i) 8 ≤ k := (mx_le_iff _ _ _).2 (h.most i hi)
theorem HistC.join {E : List EvI} {F : Nat → Nat → Nat} {k : Nat} (h : HistC E F k) {i j : Nat} (hi : i < 4) (hj : j < 4) : HistC E (setF F i (jn8 (F i) (F j))) (k + 1) := by
  refine ⟨fun q hq r hr => ?_, fun q hq r hr => ?_⟩
  · by_cases c : q = i
    · subst c
      rw [setF_at, jn8_at]
      by_cases c2 : F q r ≤ F j r
      · rw [show max (F q r) (F j r) = F j r by omega]; exact h.tight j hj r hr
      · rw [show max (F q r) (F j r) = F q r by omega]; exact h.tight q hq r hr
    · rw [setF_ne c]; exact h.tight q hq r hr
  · by_cases c : q = i
    · subst c
      rw [setF_at, jn8_at]
      have := h.most q hq r hr
      have := h.most j hj r hr
      omega
    · rw [setF_ne c]; exact Nat.le_succ_of_le (h.most q hq r hr)
theorem HistC.act {E : List EvI} {F : Nat → Nat → Nat} {k : Nat} (h : HistC E F k) {r : Nat} (hr : r < 4) {x0 : SibI} (hx1 : x0.r = r) (hx2 : x0.n = mx (F r) 8 + 1) {is : Bool} {over : List DotI} : HistC (⟨x0, is, over⟩ :: E) (setF F r (upd8 (F r) r x0.n)) (k + 1) := by
  have hm := h.top hr
  refine ⟨fun q hq j hj => ?_, fun q hq j hj => ?_⟩
  · by_cases c : q = r
    · subst c
      rw [setF_at]
      by_cases c2 : j = q
      · exact .inr ⟨_, List.mem_cons_self, hx1.trans c2.symm, by show x0.n = upd8 (F q) q x0.n j; unfold upd8; rw [if_pos c2]⟩
      · rw [show upd8 (F q) q x0.n j = F q j from if_neg c2]
        rcases h.tight q hq j hj with h | ⟨e, he, h1, h2⟩
        · exact .inl h
        · exact .inr ⟨e, List.mem_cons_of_mem _ he, h1, h2⟩
    · rw [setF_ne c]
      rcases h.tight q hq j hj with h | ⟨e, he, h1, h2⟩
      · exact .inl h
      · exact .inr ⟨e, List.mem_cons_of_mem _ he, h1, h2⟩
  · by_cases c : q = r
    · subst c
      rw [setF_at]
      unfold upd8
      split
      · omega
      · exact Nat.le_succ_of_le (h.most q hq j hj)
    · rw [setF_ne c]; exact Nat.le_succ_of_le (h.most q hq j hj)
theorem knOf0 (E : List EvI) : KnOf E (fun _ => 0) [] := ⟨fun e => ⟨fun h => absurd h List.not_mem_nil, fun ⟨_, h⟩ => by obtain ⟨_, h1, _, h2⟩ := kn_iff.1 h; omega⟩, List.Pairwise.nil⟩
/-- What is known here or there. -/
theorem KnOf.both {E : List EvI} {f g : Nat → Nat} {P Q : List EvI} (h1 : KnOf E f P) (h2 : KnOf E g Q) : KnOf E (jn8 f g) (bothK P Q) := by
  refine ⟨fun e => ?_, ?_⟩
  · unfold bothK
    rw [List.mem_append, List.mem_filter, h1.mem, h2.mem, kn_jn]
    constructor
    · rintro (⟨a, b⟩ | ⟨⟨a, b⟩, _⟩)
      · exact ⟨a, .inl b⟩
      · exact ⟨a, .inr b⟩
    · rintro ⟨a, b⟩
      by_cases c : kn f e.x.d
      · exact .inl ⟨a, c⟩
      · refine .inr ⟨⟨a, b.resolve_left c⟩, ?_⟩
        simp only [Bool.not_eq_true', decide_eq_false_iff_not, List.mem_map]
        rintro ⟨e', he', q⟩
        have h3 := (h1.mem e').1 he'
        exact c (q ▸ h3.2)
  · unfold bothK
    refine List.pairwise_append.2 ⟨h1.one, h2.one.filter _, fun a ha b hb q => ?_⟩
    have h3 := (List.mem_filter.1 hb).2
    simp only [Bool.not_eq_true', decide_eq_false_iff_not, List.mem_map] at h3
    exact h3 ⟨a, ha, q⟩
/-- What is known, and what was done just now. -/
theorem KnOf.act {E : List EvI} {F : Nat → Nat → Nat} {L : Nat → List SibI} (h : Hist E F L) {r : Nat} (hr : r < 4) {x0 : SibI} (hx1 : x0.r = r) (hx2 : x0.n = mx (F r) 8 + 1) (hmx : mx (F r) 8 < 65535) {is : Bool} {over : List DotI} {U : Nat → List EvI} (hU : ∀ i, i < 4 → KnOf E (F i) (U i)) :
    ∀ i, i < 4 → KnOf (⟨x0, is, over⟩ :: E) (setF F r (upd8 (F r) r x0.n) i) (setF U r (U r ++ [⟨x0, is, over⟩]) i) := by
  have hmr : ∀ k, k < 8 → F r k ≤ mx (F r) 8 := fun k hk => mx_le (F r) 8 k hk
  have hnew : ∀ k, k < 4 → ¬ kn (F k) x0.d := fun k hk hd => by
    obtain ⟨_, _, _, h4⟩ := kn_iff.1 hd
    rw [show x0.d.r = r from hx1] at h4
    have h4 : x0.n ≤ F k r := h4
    have := h.low k hk r hr
    have := hmr r (by omega)
    omega
  have hur : ∀ k, upd8 (F r) r x0.n k = if k = r then x0.n else F r k := fun k => rfl
  have kk : ∀ e ∈ E, (kn (upd8 (F r) r x0.n) e.x.d ↔ kn (F r) e.x.d) := fun e he => by
    rw [kn_iff, kn_iff, hur]
    by_cases c : e.x.d.r = r
    · rw [if_pos c]
      have h1 := (h.own e he).2.2.2
      rw [show e.x.r = r from c] at h1
      have h1 : e.x.d.n ≤ F r r := h1
      have := hmr r (by omega)
      rw [c]
      constructor
      · rintro ⟨a, b, d, _⟩; exact ⟨a, b, d, h1⟩
      · rintro ⟨a, b, d, _⟩; exact ⟨a, b, d, by omega⟩
    · rw [if_neg c]
  intro i hi
  by_cases c : i = r
  · subst c
    rw [setF_at, setF_at]
    have kn0 : kn (upd8 (F i) i x0.n) x0.d := kn_iff.2 ⟨by show x0.r < 8; omega, by show 1 ≤ x0.n; omega, by show x0.n ≤ 65535; omega, by show x0.n ≤ _; rw [hur, show x0.d.r = i from hx1, if_pos rfl]; exact Nat.le_refl _⟩
    refine ⟨fun e => ?_, List.pairwise_append.2 ⟨(hU i hi).one, List.pairwise_singleton _ _, fun a ha b hb q => ?_⟩⟩
    · rw [List.mem_append, List.mem_singleton, List.mem_cons, (hU i hi).mem]
      constructor
      · rintro (⟨a, b⟩ | rfl)
        · exact ⟨.inr a, (kk e a).2 b⟩
        · exact ⟨.inl rfl, kn0⟩
      · rintro ⟨rfl | a, b⟩
        · exact .inr rfl
        · exact .inl ⟨a, (kk e a).1 b⟩
    · obtain rfl := List.mem_singleton.1 hb
      have h3 := ((hU i hi).mem a).1 ha
      exact hnew i hi (q ▸ h3.2)
  · rw [setF_ne c, setF_ne c]
    refine ⟨fun e => ?_, (hU i hi).one⟩
    rw [(hU i hi).mem, List.mem_cons]
    constructor
    · rintro ⟨a, b⟩; exact ⟨.inr a, b⟩
    · rintro ⟨rfl | a, b⟩
      · exact absurd b (hnew i hi)
      · exact ⟨a, b⟩
theorem ctxK_at : ∀ (P : List EvI) (f : Nat → Nat) (r : Nat), f r ≤ ctxK f P r ∧ (∀ e ∈ P, e.x.r = r → e.x.n ≤ ctxK f P r) ∧ (ctxK f P r = f r ∨ ∃ e ∈ P, e.x.r = r ∧ e.x.n = ctxK f P r) := by
  intro P
  induction P with
  | nil => intro f r; exact ⟨Nat.le_refl _, fun e h => absurd h List.not_mem_nil, .inl rfl⟩
  | cons e P ih =>
    intro f r
    have hs : ctxK f (e :: P) = ctxK (if f e.x.r < e.x.n then upd8 f e.x.r e.x.n else f) P := rfl
    rw [hs]
    obtain ⟨h1, h2, h3⟩ := ih (if f e.x.r < e.x.n then upd8 f e.x.r e.x.n else f) r
    have hv : (if f e.x.r < e.x.n then upd8 f e.x.r e.x.n else f) r = if r = e.x.r then max (f r) e.x.n else f r := by
      by_cases c : f e.x.r < e.x.n
      · rw [if_pos c]
        unfold upd8
        by_cases c2 : r = e.x.r
        · rw [if_pos c2, if_pos c2, c2]; omega
        · rw [if_neg c2, if_neg c2]
      · rw [if_neg c]
        by_cases c2 : r = e.x.r
        · rw [if_pos c2, c2]; omega
        · rw [if_neg c2]
    rw [hv] at h1 h3
    refine ⟨?_, fun e' he' hr => ?_, ?_⟩
    · split at h1 <;> omega
    · rcases List.mem_cons.1 he' with rfl | he'
      · rw [if_pos hr.symm] at h1; omega
      · exact h2 e' he' hr
    · rcases h3 with h3 | ⟨e', he', h3⟩
      · by_cases c : r = e.x.r
        · rw [if_pos c] at h3
          by_cases c2 : f r < e.x.n
          · exact .inr ⟨e, List.mem_cons_self, c.symm, by omega⟩
          · exact .inl (by omega)
        · rw [if_neg c] at h3; exact .inl h3
      · exact .inr ⟨e', List.mem_cons_of_mem _ he', h3⟩
/-- The register of what is known is the one there is. -/
theorem reg_known {E : List EvI} {F : Nat → Nat → Nat} {L : Nat → List SibI} (h : Hist E F L) {k : Nat} (hC : HistC E F k) {i : Nat} (hi : i < 4) {P : List EvI} (hP : KnOf E (F i) P) : eq8 (F i) (ctxK (fun _ => 0) P) = true ∧ sibK P [] P = L i := by
  constructor
  · refine (eq8_iff _ _).2 fun r hr => ?_
    obtain ⟨_, h2, h3⟩ := ctxK_at P (fun _ => 0) r
    have hle : ctxK (fun _ => 0) P r ≤ F i r := by
      rcases h3 with h3 | ⟨e, he, h4, h5⟩
      · rw [h3]; exact Nat.zero_le _
      · obtain ⟨_, _, _, h6⟩ := kn_iff.1 ((hP.mem e).1 he).2
        have h6 : e.x.n ≤ F i e.x.r := h6
        rw [h4] at h6; omega
    rcases hC.tight i hi r hr with h4 | ⟨e, he, h4, h5⟩
    · omega
    · have hk : kn (F i) e.x.d := by
        obtain ⟨a1, a2, a3, _⟩ := h.own e he
        refine kn_iff.2 ⟨by show e.x.r < 8; omega, a2, a3, ?_⟩
        show e.x.n ≤ F i e.x.r
        rw [h4, h5]; exact Nat.le_refl _
      have := h2 e ((hP.mem e).2 ⟨he, hk⟩) h4
      omega
  · unfold sibK
    have hpw : ((P.filter (seenK P)).map EvI.x).Pairwise (fun x y => x.d ≠ y.d) := List.pairwise_map.2 (hP.one.filter _)
    have hord : (((P.filter (seenK P)).map EvI.x).foldl putL []).Pairwise ltD := puts_ord _ _ List.Pairwise.nil (by rw [List.nil_append]; exact hpw)
    refine ord_ext hord (okR_ord (h.ok i hi)).2 fun x => ?_
    rw [(puts_perm _ _).mem_iff, List.nil_append, List.mem_map, h.mem i hi]
    constructor
    · rintro ⟨e, he, rfl⟩
      obtain ⟨h1, h2⟩ := List.mem_filter.1 he
      obtain ⟨h3, h4⟩ := (hP.mem e).1 h1
      unfold seenK at h2
      simp only [Bool.and_eq_true, Bool.not_eq_true', decide_eq_false_iff_not] at h2
      exact ⟨⟨e, h3, h2.1, rfl⟩, h4, fun e' he' hk hx => h2.2 ⟨e', (hP.mem e').2 ⟨he', hk⟩, hx⟩⟩
    · rintro ⟨⟨e, he, ei, rfl⟩, h2, h3⟩
      refine ⟨e, List.mem_filter.2 ⟨(hP.mem e).2 ⟨he, h2⟩, ?_⟩, rfl⟩
      unfold seenK
      simp only [Bool.and_eq_true, Bool.not_eq_true', decide_eq_false_iff_not]
      exact ⟨ei, fun ⟨e', he', hx⟩ => h3 e' ((hP.mem e').1 he').1 ((hP.mem e').1 he').2 hx⟩
end Go.Proofs.Ytojbgckabifnjaa

