/- What is seen of a valid register at a name, as the statement RankAll asks for it. Of no function of the program. No condition. -/
import Derived.Test.YtiokabhidjafeaaDoorRkAm
import Derived.Test.YtiokabhidjafeaaDoorConf
import Derived.Test.YtiokabhidjafeaaDoorRkSe
section
namespace Go.Proofs.YtiokabhidjafeaaDoor
open Go.RowKit

/-- How often a dot stands among what is seen. -/
def cntS (L : List SeenI) (d : DotI) : Nat := (L.map fun x => tims x.g.d d).sum
theorem cntS_g (L : List SeenI) (d : DotI) : cntS L d = cntG (L.map (·.g)) d := by simp [cntS, cntG, Function.comp_def]
theorem cntS_succ {L : List SeenI} {k : Nat} (h : k < L.length) (d : DotI) : cntS (L.take (k + 1)) d = cntS (L.take k) d + tims L[k].g.d d := by
  unfold cntS
  rw [List.take_succ_eq_append_getElem h, List.map_append, List.sum_append]
  simp
theorem cntS_take (L : List SeenI) (k : Nat) (d : DotI) : cntS (L.take k) d ≤ cntS L d := by
  have h : cntS L d = cntS (L.take k) d + cntS (L.drop k) d := by
    unfold cntS
    rw [← List.sum_append, ← List.map_append, List.take_append_drop]
  omega
structure AllF (L : List SeenI) (l : List SibI) (nm : List UInt8) : Prop where
  one : ∀ i (h : i < l.length), cntS L l[i].d = 1
  val : ∀ i (_ : i < l.length) k (_ : k < L.length), 0 < tims L[k].g.d l[i].d → L[k].g.s = l[i].s
  con : ∀ i (h : i < L.length), L[i].con = decide (i ≠ 0)
  dir : ∀ i (h : i < L.length), L[i].dir = isDir L[i].g.s
  dir0 : ∀ i (h : i < L.length), 0 < i → L[i].dir = false
  hd : ∀ i (h : i < L.length), ∃ d dr, L[i].g.d = d :: dr ∧ (i = 0 → L[i].n = nm) ∧ (0 < i → L[i].n = conf nm d.r d.n ∧ okd nm d.r d.n)
  un : ∀ i (_ : i < L.length) k (_ : k < L.length), k < i → L[i].n ≠ L[k].n ∧ L[i].g.s ≠ L[k].g.s
  emp : l = [] → L = []
  fst : ∀ l' x, l = l' ++ [x] → ∃ h : 0 < L.length, L[0].dir = true ∨ L[0].dir = false ∧ L[0].g.s = x.s ∧ ∃ dr, L[0].g.d = x.d :: dr
theorem one_of {l : List SibI} {p : SibI → Bool} {x : SibI} (hx : x ∈ l) (hp : p x = true) (hu : ∀ y ∈ l, p y = true → y = x) (hn : l.Nodup) : (l.filter p).length = 1 := by
  induction l with
  | nil => cases hx
  | cons y l ih =>
    obtain ⟨h1, h2⟩ := List.nodup_cons.1 hn
    by_cases hy : p y = true
    · have e := hu y List.mem_cons_self hy
      subst e
      have : l.filter p = [] := List.filter_eq_nil_iff.2 fun z hz hpz => by
        have := hu z (List.mem_cons_of_mem _ hz) hpz
        subst this
        exact h1 hz
      simp [hp, this]
    · have hxl : x ∈ l := by
        rcases List.mem_cons.1 hx with rfl | h
        · exact absurd hp hy
        · exact h
      have := ih hxl (fun z hz hpz => hu z (List.mem_cons_of_mem _ hz) hpz) h2
      simpa [hy] using this
theorem allF {f : Nat → Nat} {l : List SibI} {nm : List UInt8} (hok : okR f l = true) (hnm : chk nm = 0) : AllF (seenA cfR nm (sameR false) isDir l) l nm := by
  obtain ⟨hh, ho⟩ := okR_ord hok
  have hmx : mx f 8 ≤ 65535 := by
    unfold okR at hok
    simp only [Bool.and_eq_true, decide_eq_true_eq] at hok
    exact hok.1.1
  have hdist : ∀ x ∈ l, ∀ y ∈ l, x.d = y.d → x = y := by
    intro x hx y hy e
    obtain ⟨i, hi, rfl⟩ := List.getElem_of_mem hx
    obtain ⟨j, hj, rfl⟩ := List.getElem_of_mem hy
    rw [List.pairwise_iff_getElem] at ho
    rcases Nat.lt_trichotomy i j with h | h | h
    · exact absurd e (ltD_ne (ho i j hi hj h))
    · subst h; rfl
    · exact absurd e.symm (ltD_ne (ho j i hj hi h))
  have hnd : l.Nodup := List.Pairwise.imp (S := fun a b => a ≠ b) (fun h e => ltD_ne h (by rw [e])) ho
  have A := ainv l
  rw [seenA_all]
  obtain ⟨G, hG⟩ : ∃ G, allG l = G := ⟨_, rfl⟩
  rw [hG] at A ⊢
  have okg : ∀ g ∈ G, ∀ d ∈ g.d, okd nm d.r d.n := fun g hg d hd => by
    obtain ⟨x, hx, rfl, _⟩ := A.mem g hg d hd
    have h8 := hh x hx
    simp only [has8, okD, Bool.and_eq_true, decide_eq_true_eq] at h8
    exact ⟨hnm, by show x.r ≤ 7; omega, h8.1.1.2, h8.1.2⟩
  obtain ⟨L, hL⟩ : ∃ L, seeAll cfR nm G = L := ⟨_, rfl⟩
  rw [hL]
  have hlen : L.length = G.length := by rw [← List.length_map (f := fun x : SeenI => x.g), ← hL, seeAll_g]
  have hg : ∀ i (h : i < L.length), L[i].g = G[i]'(by omega) := fun i h => by
    subst hL
    have : ((seeAll cfR nm G).map (·.g))[i]'(by simpa using h) = G[i]'(by omega) := by simp only [seeAll_g]
    rw [← this, List.getElem_map]
  have hat : ∀ i (h : i < L.length), ∃ d dr, L[i].g.d = d :: dr ∧ (i = 0 → L[i].n = nm ∧ L[i].con = false ∧ L[i].dir = isDir L[i].g.s) ∧
      (0 < i → L[i].n = conf nm d.r d.n ∧ okd nm d.r d.n ∧ L[i].con = true ∧ L[i].dir = false ∧ isDir L[i].g.s = false) := by
    intro i h
    have hgi := hg i h
    have hne := A.ne (G[i]'(by omega)) (List.getElem_mem _)
    obtain ⟨d, dr, hd⟩ : ∃ d dr, (G[i]'(by omega)).d = d :: dr := by
      cases hx : (G[i]'(by omega)).d with
      | nil => exact absurd hx hne
      | cons d dr => exact ⟨d, dr, rfl⟩
    refine ⟨d, dr, by rw [hgi, hd], fun e => ?_, fun e => ?_⟩
    · subst e
      clear hgi hne hd
      subst hL
      cases G with
      | nil => simp [seeAll] at h
      | cons g gs => exact ⟨rfl, rfl, rfl⟩
    · clear hgi hne
      subst hL
      cases G with
      | nil => simp [seeAll] at h
      | cons g gs =>
        obtain ⟨j, rfl⟩ : ∃ j, i = j + 1 := ⟨i - 1, by omega⟩
        have hj : j < gs.length := by rw [hlen, List.length_cons] at h; omega
        have e2 : (g :: gs)[j + 1]'(by simp; exact hj) = gs[j] := List.getElem_cons_succ ..
        rw [e2] at hd
        have hs : (seeAll cfR nm (g :: gs))[j + 1]'h = ⟨cfR nm (gs[j].d.headD default), false, true, gs[j]⟩ := by simp [seeAll]
        rw [hs]
        have hk : okd nm d.r d.n := okg gs[j] (List.mem_cons_of_mem _ (List.getElem_mem hj)) d (by rw [hd]; simp)
        refine ⟨?_, hk, rfl, rfl, ?_⟩
        · show cfR nm (gs[j].d.headD default) = _
          rw [hd]
          show (conflict nm d.r d.n).1 = _
          rw [conflict_good hk]
        · exact A.nod gs[j] (List.getElem_mem hj)
  have hcn : ∀ d, cntS L d = cntG G d := fun d => by rw [cntS_g, ← hL, seeAll_g]
  have hval : ∀ i (_ : i < l.length) k (_ : k < L.length), 0 < tims L[k].g.d l[i].d → L[k].g.s = l[i].s := by
    intro i hi k hk h
    have hm := tims_pos.1 h
    rw [hg k hk] at hm ⊢
    obtain ⟨x, hx, e, hs⟩ := A.mem _ (List.getElem_mem _) _ hm
    rw [hs, hdist x hx l[i] (List.getElem_mem hi) e]
  refine ⟨fun i hi => ?_, hval, fun i h => ?_, fun i h => ?_, fun i h h0 => ?_, fun i h => ?_, fun i hi k hk hlt => ?_, fun e => ?_, fun l' x e => ?_⟩
  · rw [hcn, A.cnt]
    exact one_of (List.getElem_mem hi) (by simp) (fun y hy hp => hdist y hy _ (List.getElem_mem hi) (by simpa using hp)) hnd
  · obtain ⟨d, dr, _, h1, h2⟩ := hat i h
    rcases Nat.eq_zero_or_pos i with e | e
    · rw [(h1 e).2.1]; exact (decide_eq_false (by omega)).symm
    · rw [(h2 e).2.2.1]; exact (decide_eq_true (by omega)).symm
  · obtain ⟨d, dr, _, h1, h2⟩ := hat i h
    rcases Nat.eq_zero_or_pos i with e | e
    · exact (h1 e).2.2
    · rw [(h2 e).2.2.2.1, (h2 e).2.2.2.2]
  · obtain ⟨d, dr, _, h1, h2⟩ := hat i h
    exact (h2 h0).2.2.2.1
  · obtain ⟨d, dr, h0, h1, h2⟩ := hat i h
    exact ⟨d, dr, h0, fun e => (h1 e).1, fun e => ⟨(h2 e).1, (h2 e).2.1⟩⟩
  · have hs : L[i].g.s ≠ L[k].g.s := by
      rw [hg i hi, hg k hk]
      have hv := List.pairwise_iff_getElem.1 A.vals k i (by simp; omega) (by simp; omega) hlt
      rw [List.getElem_map, List.getElem_map] at hv
      exact fun e => hv e.symm
    refine ⟨fun e => ?_, hs⟩
    obtain ⟨d, dr, h0, _, h2⟩ := hat i hi
    obtain ⟨d', dr', h0', h1', h2'⟩ := hat k hk
    have hi2 := h2 (by omega)
    rw [hi2.1] at e
    rcases Nat.eq_zero_or_pos k with hz | hz
    · rw [(h1' hz).1] at e
      exact conf_not nm d.r d.n (by rw [e]; exact hnm)
    · have hk2 := h2' hz
      rw [hk2.1] at e
      obtain ⟨_, e1, e2⟩ := conf_inj hi2.2.1 hk2.2.1 e
      have ed : d = d' := DotI.ext' e1 e2
      subst ed
      obtain ⟨x, hx, ex, sx⟩ := A.mem _ (List.getElem_mem (by omega : i < G.length)) d (by rw [← hg i hi, h0]; simp)
      obtain ⟨y, hy, ey, sy⟩ := A.mem _ (List.getElem_mem (by omega : k < G.length)) d (by rw [← hg k hk, h0']; simp)
      have := hdist x hx y hy (ex.trans ey.symm)
      subst this
      exact hs (by rw [hg i hi, hg k hk, sx, sy])
  · subst e
    rw [← hL, ← hG]
    rfl
  · obtain ⟨g0, gs, e0, h0⟩ := A.last l' x e
    have hp : 0 < L.length := by rw [hlen, e0]; simp
    refine ⟨hp, ?_⟩
    have hg0 : L[0].g = g0 := by rw [hg 0 hp]; simp [e0]
    obtain ⟨d, dr, _, h1, _⟩ := hat 0 hp
    rw [(h1 rfl).2.2, hg0]
    cases hdr : isDir g0.s with
    | true => exact .inl rfl
    | false =>
      rcases h0 with h | ⟨h3, h4⟩
      · rw [hdr] at h; cases h
      · exact .inr ⟨rfl, h3, h4⟩
end Go.Proofs.YtiokabhidjafeaaDoor
end
section
namespace Go.Proofs.YtiokabhidjafeaaDoor
open Go.RowKit Go.Shelf

theorem few8_in {l : List SibI} (h : few8 l) : (∀ x ∈ l, x.s.length ≤ 200) ∧ l.length ≤ 1000 := by
  refine ⟨fun x hx => ?_, by have := h.1; omega⟩
  obtain ⟨i, hi, rfl⟩ := List.getElem_of_mem hx
  have := h.2 i hi
  omega
/-- A group at number i, in memory. -/
theorem GrO.elem {n1 : Nat} {W : World} {a : Option Addr} {n c : Nat} {P : List (GrpI × Value)} (h : GrO n1 W (.slice a n c) P) (hn : n = P.length) (i : Nat) (hi : i < P.length) :
    ∃ g off ad cd, a = some ⟨g, off, none⟩ ∧ g < W.heap.size ∧ W.cell? ⟨g, off + i * 2, none⟩ = some (.string (bs P[i].1.s)) ∧ W.cell? ⟨g, off + i * 2 + 1, none⟩ = some (.slice ad P[i].1.d.length cd) ∧ DL W (.slice ad P[i].1.d.length cd) P[i].1.d := by
  subst hn
  obtain ⟨g, off, e, h0, hc⟩ := Sl.elem grc grc_len h.row.sl2 i hi (by omega)
  have hd := (h.dots i hi).dl
  obtain ⟨ad, cd, hv, _, _⟩ := DL.slice hd
  rw [hv] at hd
  have h4 := hc 1 (by omega)
  have e4 : (grc P[i])[1]? = some P[i].2 := rfl
  rw [e4, hv] at h4
  refine ⟨g, off, ad, cd, e, h0, hc 0 (by omega), ?_, hd⟩
  rw [Nat.add_assoc]; exact h4
end Go.Proofs.YtiokabhidjafeaaDoor
end
section
namespace Go.Proofs.YtiokabhidjafeaaDoor
open Go.RowKit Go.Shelf

theorem seenG_len (cf : List UInt8 → DotI → List UInt8) (nm : List UInt8) : ∀ (L : List GrpI) (k : Nat), (seenG cf nm k L).length = L.length
  | [], _ => rfl
  | g :: L, k => by rw [seenG, List.length_cons, List.length_cons, seenG_len cf nm L (k + 1)]
theorem seenA_len (cf : List UInt8 → DotI → List UInt8) (nm : List UInt8) (q : List UInt8 → List UInt8 → Bool) (p : List UInt8 → Bool) (l : List SibI) (hs : ∀ x ∈ l, x.s.length ≤ 200) (hb : l.length ≤ 1000) : (seenA cf nm q p l).length ≤ 2000 := by
  unfold seenA
  rw [List.length_append, List.length_map, seenG_len]
  have h1 := (gok_grps (p := fun _ _ => true) (l.filter (fun x => p x.s == true)) (fun x hx => hs x (List.mem_filter.1 hx).1)).len
  have h2 := (gok_grps (p := q) (l.filter (fun x => p x.s == false)) (fun x hx => hs x (List.mem_filter.1 hx).1)).len
  have h3 := List.length_filter_le (fun x : SibI => p x.s == true) l
  have h4 := List.length_filter_le (fun x : SibI => p x.s == false) l
  omega
end Go.Proofs.YtiokabhidjafeaaDoor
end
