/- What is seen of a register: each dot in just one group, unlike values, the greatest dot first, unlike names. Of no function of the program. No condition. -/
import Derived.Test.YtiokabhidjafeaaDoorVecC
import Derived.Test.YtiokabhidjafeaaDoorRkR
import Derived.Test.YtiokabhidjafeaaDoorSibOrd
import Derived.Test.YtiokabhidjafeaaDoorRound
namespace Go.Proofs.YtiokabhidjafeaaDoor
open Go.RowKit

/-- How often a dot stands among all dots of groups. -/
def cntG (G : List GrpI) (d : DotI) : Nat := (G.map fun g => tims g.d d).sum
theorem tims_snoc (l : List DotI) (x d : DotI) : tims (l ++ [x]) d = tims l d + (if x = d then 1 else 0) := by
  unfold tims
  rw [List.filter_append, List.length_append]
  by_cases e : x = d <;> simp [e]
theorem tims_pos {l : List DotI} {d : DotI} : 0 < tims l d ↔ d ∈ l := by
  unfold tims
  rw [List.length_pos_iff_exists_mem]
  refine ⟨fun ⟨x, hx⟩ => ?_, fun h => ⟨d, List.mem_filter.2 ⟨h, by simp⟩⟩⟩
  have h1 := List.mem_filter.1 hx
  have e : x = d := by simpa using h1.2
  exact e ▸ h1.1
theorem cntG_app (G H : List GrpI) (d : DotI) : cntG (G ++ H) d = cntG G d + cntG H d := by simp [cntG]
section
variable {p : List UInt8 → List UInt8 → Bool}
theorem cntG_add (x : SibI) (d : DotI) : ∀ G : List GrpI, cntG (addG p G x) d = cntG G d + (if x.d = d then 1 else 0) := by
  intro G
  induction G with
  | nil => by_cases e : x.d = d <;> simp [cntG, addG, tims, e]
  | cons g gs ih =>
    unfold addG
    split
    · simp only [cntG, List.map_cons, List.sum_cons, tims_snoc]
      omega
    · simp only [cntG, List.map_cons, List.sum_cons] at ih ⊢
      omega
theorem addG_mem (hp : ∀ s, p s s = true) (x : SibI) : ∀ (G : List GrpI), ∀ g ∈ addG p G x, ∀ d ∈ g.d, (∃ g' ∈ G, g'.s = g.s ∧ d ∈ g'.d) ∨ d = x.d ∧ p g.s x.s = true := by
  intro G
  induction G with
  | nil =>
    intro g hg d hd
    simp [addG] at hg
    subst hg
    exact .inr ⟨by simpa using hd, hp _⟩
  | cons g0 gs ih =>
    intro g hg d hd
    unfold addG at hg
    split at hg
    · rename_i hpp
      rcases List.mem_cons.1 hg with rfl | hg
      · rcases List.mem_append.1 hd with h | h
        · exact .inl ⟨g0, List.mem_cons_self, rfl, h⟩
        · exact .inr ⟨by simpa using h, hpp⟩
      · exact .inl ⟨g, List.mem_cons_of_mem _ hg, rfl, hd⟩
    · rcases List.mem_cons.1 hg with rfl | hg
      · exact .inl ⟨g, List.mem_cons_self, rfl, hd⟩
      · rcases ih g hg d hd with ⟨g', h1, h2⟩ | h
        · exact .inl ⟨g', List.mem_cons_of_mem _ h1, h2⟩
        · exact .inr h
theorem addG_vals (x : SibI) : ∀ (G : List GrpI), (addG p G x).map (·.s) = G.map (·.s) ∨ (addG p G x).map (·.s) = G.map (·.s) ++ [x.s] ∧ ∀ g ∈ G, p g.s x.s = false := by
  intro G
  induction G with
  | nil => exact .inr ⟨rfl, fun g h => by cases h⟩
  | cons g0 gs ih =>
    unfold addG
    split
    · exact .inl rfl
    · rename_i hpp
      rcases ih with h | ⟨h1, h2⟩
      · exact .inl (by simp [h])
      · refine .inr ⟨by simp [h1], fun g hg => ?_⟩
        rcases List.mem_cons.1 hg with rfl | hg
        · simpa using hpp
        · exact h2 g hg
theorem addG_first {g0 : GrpI} {gs : List GrpI} {x : SibI} {d0 : DotI} {dr : List DotI} (h : g0.d = d0 :: dr) : ∃ g1 gs1 dr1, addG p (g0 :: gs) x = g1 :: gs1 ∧ g1.s = g0.s ∧ g1.d = d0 :: dr1 := by
  unfold addG
  split
  · exact ⟨_, _, dr ++ [x.d], rfl, rfl, by simp [h]⟩
  · exact ⟨_, _, dr, rfl, rfl, h⟩
/-- What holds of groups and the siblings that came to them. -/
structure GInv (p : List UInt8 → List UInt8 → Bool) (G : List GrpI) (ys : List SibI) : Prop where
  cnt : ∀ d, cntG G d = (ys.filter (fun x => decide (x.d = d))).length
  mem : ∀ g ∈ G, ∀ d ∈ g.d, ∃ x ∈ ys, x.d = d ∧ p g.s x.s = true
  vals : (G.map (·.s)).Pairwise (fun a b => p a b = false)
  from_ : ∀ g ∈ G, ∃ x ∈ ys, g.s = x.s
  first : ∀ x0 yr, ys = x0 :: yr → ∃ g0 gs dr, G = g0 :: gs ∧ g0.s = x0.s ∧ g0.d = x0.d :: dr
theorem GInv.nil : GInv p [] [] := ⟨fun _ => rfl, fun g h => (by cases h), List.Pairwise.nil, fun g h => (by cases h), fun _ _ h => (by cases h)⟩
theorem addG_from (x : SibI) : ∀ (G : List GrpI), ∀ g ∈ addG p G x, (∃ g' ∈ G, g'.s = g.s) ∨ g.s = x.s := by
  intro G g hg
  have hm : g.s ∈ (addG p G x).map (·.s) := List.mem_map_of_mem hg
  rcases addG_vals (p := p) x G with h | ⟨h, _⟩
  · rw [h] at hm
    obtain ⟨g', h1, h2⟩ := List.mem_map.1 hm
    exact .inl ⟨g', h1, h2⟩
  · rw [h] at hm
    rcases List.mem_append.1 hm with hm | hm
    · obtain ⟨g', h1, h2⟩ := List.mem_map.1 hm
      exact .inl ⟨g', h1, h2⟩
    · exact .inr (by simpa using hm)
theorem GInv.add (hp : ∀ s, p s s = true) {G : List GrpI} {ys : List SibI} (h : GInv p G ys) (x : SibI) : GInv p (addG p G x) (ys ++ [x]) := by
  refine ⟨fun d => ?_, fun g hg d hd => ?_, ?_, fun g hg => ?_, fun x0 yr e => ?_⟩
  · rw [cntG_add, h.cnt, List.filter_append, List.length_append]
    by_cases e : x.d = d <;> simp [e]
  · rcases addG_mem hp x G g hg d hd with ⟨g', h1, h2, h3⟩ | ⟨rfl, h2⟩
    · obtain ⟨y, hy, hd', hp'⟩ := h.mem g' h1 d h3
      exact ⟨y, List.mem_append_left _ hy, hd', h2 ▸ hp'⟩
    · exact ⟨x, by simp, rfl, h2⟩
  · rcases addG_vals (p := p) x G with e | ⟨e, hn⟩
    · rw [e]; exact h.vals
    · rw [e]
      refine List.pairwise_append.2 ⟨h.vals, List.pairwise_singleton _ _, fun a ha b hb => ?_⟩
      obtain ⟨g, hg, rfl⟩ := List.mem_map.1 ha
      have : b = x.s := by simpa using hb
      subst this
      exact hn g hg
  · rcases addG_from x G g hg with ⟨g', h1, h2⟩ | e
    · obtain ⟨y, hy, hs⟩ := h.from_ g' h1
      exact ⟨y, List.mem_append_left _ hy, h2 ▸ hs⟩
    · exact ⟨x, by simp, e⟩
  · cases ys with
    | nil =>
      have hG : G = [] := by
        cases G with
        | nil => rfl
        | cons g gs => obtain ⟨y, hy, _⟩ := h.from_ g List.mem_cons_self; cases hy
      subst hG
      rw [List.nil_append] at e
      obtain ⟨rfl, _⟩ := List.cons.inj e
      exact ⟨_, _, [], rfl, rfl, rfl⟩
    | cons y yr' =>
      rw [List.cons_append] at e
      obtain ⟨rfl, _⟩ := List.cons.inj e
      obtain ⟨g0, gs, dr, rfl, h2, h3⟩ := h.first _ _ rfl
      obtain ⟨g1, gs1, dr1, e1, e2, e3⟩ := addG_first (p := p) (gs := gs) (x := x) h3
      exact ⟨g1, gs1, dr1, e1, e2.trans h2, e3⟩
theorem ginv_fold (hp : ∀ s, p s s = true) : ∀ (xs ys : List SibI) (G : List GrpI), GInv p G ys → GInv p (xs.foldl (addG p) G) (ys ++ xs) := by
  intro xs
  induction xs with
  | nil => intro ys G h; simpa using h
  | cons x xs ih =>
    intro ys G h
    have := ih (ys ++ [x]) _ (h.add hp x)
    simpa using this
theorem ginv_grps (hp : ∀ s, p s s = true) (l : List SibI) : GInv p (grps p l) l.reverse := by
  have := ginv_fold hp l.reverse [] [] GInv.nil
  simpa [grps] using this
end
theorem sameR_same (a b : List UInt8) : sameR false a b = (a == b) := by simp [sameR]
theorem isDir_iff {s : List UInt8} : isDir s = true ↔ s = [47] := by simp [isDir]
/-- All groups: the directories' first. -/
def allG (l : List SibI) : List GrpI := grps (fun _ _ => true) (l.filter (fun x => isDir x.s == true)) ++ grps (sameR false) (l.filter (fun x => isDir x.s == false))
theorem filter_parts (p q : SibI → Bool) : ∀ l : List SibI, ((l.filter (fun x => p x == true)).filter q).length + ((l.filter (fun x => p x == false)).filter q).length = (l.filter q).length := by
  intro l
  induction l with
  | nil => rfl
  | cons x l ih =>
    cases hp : p x <;> cases hq : q x <;> simp [hp, hq] at ih ⊢ <;> omega
/-- What holds of all groups of a register's siblings. -/
structure AInv (G : List GrpI) (l : List SibI) : Prop where
  cnt : ∀ d, cntG G d = (l.filter (fun x => decide (x.d = d))).length
  mem : ∀ g ∈ G, ∀ d ∈ g.d, ∃ x ∈ l, x.d = d ∧ g.s = x.s
  vals : (G.map (·.s)).Pairwise (· ≠ ·)
  ne : ∀ g ∈ G, g.d ≠ []
  nod : ∀ g ∈ G.tail, isDir g.s = false
  last : ∀ l' x, l = l' ++ [x] → ∃ g0 gs, G = g0 :: gs ∧ (isDir g0.s = true ∨ g0.s = x.s ∧ ∃ dr, g0.d = x.d :: dr)
theorem grpsD_few (l : List SibI) : (grps (fun _ _ => true) l).length ≤ 1 := by
  have h := (ginv_grps (p := fun _ _ => true) (fun _ => rfl) l).vals
  match hg : grps (fun _ _ => true) l with
  | [] => exact Nat.zero_le _
  | [_] => exact Nat.le_refl _
  | a :: b :: r =>
    rw [hg] at h
    have h2 := (List.pairwise_cons.1 h).1 b.s (by simp)
    cases h2
theorem ainv (l : List SibI) : AInv (allG l) l := by
  have hD := ginv_grps (p := fun _ _ => true) (fun _ => rfl) (l.filter (fun x => isDir x.s == true))
  have hN := ginv_grps (p := sameR false) (fun s => by simp [sameR]) (l.filter (fun x => isDir x.s == false))
  have h1 := grpsD_few (l.filter (fun x => isDir x.s == true))
  have neD := grps_ne (p := fun _ _ => true) (l.filter (fun x => isDir x.s == true))
  have neN := grps_ne (p := sameR false) (l.filter (fun x => isDir x.s == false))
  have hl : ∀ g ∈ grps (fun _ _ => true) (l.filter (fun x => isDir x.s == true)), isDir g.s = true := fun g hg => by
    obtain ⟨x, hx, e⟩ := hD.from_ g hg
    rw [List.mem_reverse] at hx
    rw [e]
    simpa using (List.mem_filter.1 hx).2
  have hn : ∀ g ∈ grps (sameR false) (l.filter (fun x => isDir x.s == false)), isDir g.s = false := fun g hg => by
    obtain ⟨x, hx, e⟩ := hN.from_ g hg
    rw [List.mem_reverse] at hx
    rw [e]
    simpa using (List.mem_filter.1 hx).2
  unfold allG
  refine ⟨fun d => ?_, fun g hg d hd => ?_, ?_, fun g hg => ?_, fun g hg => ?_, fun l' x e => ?_⟩
  · rw [cntG_app, hD.cnt, hN.cnt, List.filter_reverse, List.filter_reverse, List.length_reverse, List.length_reverse]
    exact filter_parts (fun x => isDir x.s) (fun x => decide (x.d = d)) l
  · rcases List.mem_append.1 hg with hg | hg
    · obtain ⟨x, hx, e, _⟩ := hD.mem g hg d hd
      rw [List.mem_reverse] at hx
      have h2 := List.mem_filter.1 hx
      have h3 : isDir x.s = true := by simpa using h2.2
      exact ⟨x, h2.1, e, by rw [isDir_iff.1 h3, isDir_iff.1 (hl g hg)]⟩
    · obtain ⟨x, hx, e, hp⟩ := hN.mem g hg d hd
      rw [List.mem_reverse] at hx
      rw [sameR_same] at hp
      exact ⟨x, (List.mem_filter.1 hx).1, e, by simpa using hp⟩
  · rw [List.map_append]
    refine List.pairwise_append.2 ⟨?_, hN.vals.imp (fun h => by rw [sameR_same] at h; simpa using h), fun a ha b hb e => ?_⟩
    · exact hD.vals.imp (fun h => by cases h)
    · obtain ⟨g, hg, rfl⟩ := List.mem_map.1 ha
      obtain ⟨g', hg', rfl⟩ := List.mem_map.1 hb
      have a1 := hl g hg
      have a2 := hn g' hg'
      rw [e, a2] at a1
      cases a1
  · rcases List.mem_append.1 hg with hg | hg
    · exact neD g hg
    · exact neN g hg
  · match hm : grps (fun _ _ => true) (l.filter (fun x => isDir x.s == true)) with
    | [] => rw [hm] at hg; exact hn g (List.mem_of_mem_tail hg)
    | [_] => rw [hm] at hg; exact hn g hg
    | _ :: _ :: _ => rw [hm] at h1; simp at h1
  · match hm : grps (fun _ _ => true) (l.filter (fun x => isDir x.s == true)) with
    | g0 :: gs =>
      exact ⟨g0, _, rfl, .inl (hl g0 (by rw [hm]; exact List.mem_cons_self))⟩
    | [] =>
      have hno : isDir x.s = false := by
        cases hx : isDir x.s with
        | false => rfl
        | true =>
          have hc := hD.cnt x.d
          rw [hm] at hc
          have hin : x ∈ (l.filter (fun x => isDir x.s == true)).reverse.filter (fun y => decide (y.d = x.d)) := by
            refine List.mem_filter.2 ⟨List.mem_reverse.2 (List.mem_filter.2 ⟨by rw [e]; simp, by simp [hx]⟩), by simp⟩
          have := List.length_pos_of_mem hin
          have hc : (0 : Nat) = _ := hc
          omega
      have hrev : ∃ r, (l.filter (fun x => isDir x.s == false)).reverse = x :: r := by
        rw [e, List.filter_append]
        simp [hno]
      obtain ⟨r, hr⟩ := hrev
      obtain ⟨g0, gs, dr, h2, h3, h4⟩ := hN.first x r hr
      exact ⟨g0, gs, by rw [h2]; rfl, .inr ⟨h3, dr, h4⟩⟩
/-- All that is seen. -/
def seeAll (cf : List UInt8 → DotI → List UInt8) (nm : List UInt8) : List GrpI → List SeenI
  | [] => []
  | g :: gs => ⟨nm, isDir g.s, false, g⟩ :: gs.map fun g => ⟨cf nm (g.d.headD default), false, true, g⟩
theorem seenG_map (cf : List UInt8 → DotI → List UInt8) (nm : List UInt8) : ∀ (gs : List GrpI) (k : Nat), (∀ g ∈ gs, g.d ≠ []) → seenG cf nm (k + 1) gs = gs.map fun g => ⟨cf nm (g.d.headD default), false, true, g⟩ := by
  intro gs
  induction gs with
  | nil => intro k _; rfl
  | cons g gs ih =>
    intro k h
    rw [seenG, ih (k + 1) (fun x hx => h x (List.mem_cons_of_mem _ hx)), List.map_cons]
    congr 1
    unfold seeF
    rw [if_neg (by omega)]
    match hd : g.d with
    | [] => exact absurd hd (h g List.mem_cons_self)
    | d :: _ => rfl
theorem seenA_all (cf : List UInt8 → DotI → List UInt8) (nm : List UInt8) (l : List SibI) : seenA cf nm (sameR false) isDir l = seeAll cf nm (allG l) := by
  have h1 := grpsD_few (l.filter (fun x => isDir x.s == true))
  have hD := ginv_grps (p := fun _ _ => true) (fun _ => rfl) (l.filter (fun x => isDir x.s == true))
  have hN := ginv_grps (p := sameR false) (fun s => by simp [sameR]) (l.filter (fun x => isDir x.s == false))
  have neN := grps_ne (p := sameR false) (l.filter (fun x => isDir x.s == false))
  unfold seenA allG
  match hm : grps (fun _ _ => true) (l.filter (fun x => isDir x.s == true)) with
  | [] =>
    simp only [List.map_nil, List.nil_append, List.length_nil]
    match hg : grps (sameR false) (l.filter (fun x => isDir x.s == false)) with
    | [] => rfl
    | g :: gs =>
      rw [hg] at neN
      have hn : isDir g.s = false := by
        obtain ⟨x, hx, e⟩ := hN.from_ g (by rw [hg]; exact List.mem_cons_self)
        rw [List.mem_reverse] at hx
        rw [e]
        simpa using (List.mem_filter.1 hx).2
      rw [seenG, seenG_map cf nm gs 0 (fun x hx => neN x (List.mem_cons_of_mem _ hx)), seeAll, hn]
      rfl
  | [g] =>
    have hy : isDir g.s = true := by
      obtain ⟨x, hx, e⟩ := hD.from_ g (by rw [hm]; exact List.mem_cons_self)
      rw [List.mem_reverse] at hx
      rw [e]
      simpa using (List.mem_filter.1 hx).2
    simp only [List.map_cons, List.map_nil, List.length_cons, List.length_nil, List.cons_append, List.nil_append]
    rw [seenG_map cf nm _ 0 neN, seeAll, hy]
    rfl
  | _ :: _ :: _ => rw [hm] at h1; simp at h1
theorem seeAll_g (cf : List UInt8 → DotI → List UInt8) (nm : List UInt8) : ∀ G : List GrpI, (seeAll cf nm G).map (·.g) = G
  | [] => rfl
  | g :: gs => by simp [seeAll, Function.comp_def]
end Go.Proofs.YtiokabhidjafeaaDoor

