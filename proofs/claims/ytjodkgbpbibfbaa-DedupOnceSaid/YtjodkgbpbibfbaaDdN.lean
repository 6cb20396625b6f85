/- What is held of a table's contents, of no program: each content once, with its id, as long as it is referred to. No condition. -/
import Derived.Test.YtjodkgbpbibfbaaDdM
namespace Go.Proofs.Ytjodkgbpbibfbaa
open Go.RowKit

theorem mem_set_key {α β : Type} (f : α → β) {l : List α} (h : l.Pairwise fun x y => f x ≠ f y) {k : Nat} (hk : k < l.length) {x : α} (e : f x = f l[k]) (y : α) : y ∈ l.set k x ↔ y = x ∨ (y ∈ l ∧ f y ≠ f x) := by
  rw [List.mem_iff_getElem]
  constructor
  · rintro ⟨j, hj, e2⟩
    rw [List.length_set] at hj
    rw [List.getElem_set] at e2
    by_cases hjk : k = j
    · rw [if_pos hjk] at e2
      exact .inl e2.symm
    · rw [if_neg hjk] at e2
      refine .inr ⟨by rw [← e2]; exact List.getElem_mem hj, ?_⟩
      rw [← e2, e]
      rcases Nat.lt_or_gt_of_ne hjk with hlt | hgt
      · exact (List.pairwise_iff_getElem.1 h k j hk hj hlt).symm
      · exact List.pairwise_iff_getElem.1 h j k hj hk hgt
  · rintro (rfl | ⟨hy, hne⟩)
    · exact ⟨k, by rw [List.length_set]; exact hk, by rw [List.getElem_set, if_pos rfl]⟩
    · obtain ⟨j, hj, e2⟩ := List.getElem_of_mem hy
      refine ⟨j, by rw [List.length_set]; exact hj, ?_⟩
      rw [List.getElem_set, if_neg, e2]
      intro hkj
      subst hkj
      exact hne (by rw [e, e2])
theorem pairwise_set_key {α β : Type} (f : α → β) {l : List α} (h : l.Pairwise fun x y => f x ≠ f y) {k : Nat} (hk : k < l.length) {x : α} (e : f x = f l[k]) : (l.set k x).Pairwise fun x y => f x ≠ f y := by
  rw [List.pairwise_iff_getElem]
  intro a b ha hb hab
  have ha' : a < l.length := by simpa using ha
  have hb' : b < l.length := by simpa using hb
  have := List.pairwise_iff_getElem.1 h a b ha' hb' hab
  rw [List.getElem_set, List.getElem_set]
  by_cases h1 : k = a
  · subst h1
    rw [if_pos rfl, if_neg (by omega), e]; exact this
  · rw [if_neg h1]
    by_cases h2 : k = b
    · subst h2
      rw [if_pos rfl, e]; exact this
    · rw [if_neg h2]; exact this
/-- A content: data, id, block, references (0: let go). -/
structure HdV where
  s : List UInt8
  id : Nat
  b : Int
  r : Nat
def HdV.ch (x : HdV) : ChV := ⟨x.id, x.s, x.b, x.r⟩
/-- A table, and what is held. -/
structure OnI (T : TbV) (A : List HdV) : Prop where
  ok : T.ok
  ds : A.Pairwise fun x y => x.s ≠ y.s
  mem : ∀ c, c ∈ T.L ↔ ∃ x ∈ A, 0 < x.r ∧ x.ch = c
  dead : ∀ x ∈ A, x.r = 0 → ∀ c ∈ T.L, c.id ≠ x.id
  lt : ∀ x ∈ A, x.id < T.nx
theorem OnI.new : OnI TbV.new [] := ⟨TbV.new_ok, List.Pairwise.nil, (fun c => ⟨(fun h => by cases h), (fun ⟨x, h, _⟩ => by cases h)⟩), (fun x h => by cases h), (fun x h => by cases h)⟩
theorem key_eq {α β : Type} (f : α → β) {l : List α} (h : l.Pairwise fun x y => f x ≠ f y) {x y : α} (hx : x ∈ l) (hy : y ∈ l) (e : f x = f y) : x = y := by
  obtain ⟨i, hi, rfl⟩ := List.getElem_of_mem hx
  obtain ⟨j, hj, rfl⟩ := List.getElem_of_mem hy
  rcases Nat.lt_trichotomy i j with hlt | heq | hgt
  · exact absurd e (List.pairwise_iff_getElem.1 h i j hi hj hlt)
  · subst heq; rfl
  · exact absurd e.symm (List.pairwise_iff_getElem.1 h j i hj hi hgt)
section
variable {T : TbV} {A : List HdV}
theorem OnI.live (h : OnI T A) {x : HdV} (hx : x ∈ A) (hr : 0 < x.r) : x.ch ∈ T.L := (h.mem _).2 ⟨x, hx, hr, rfl⟩
theorem OnI.get_live (h : OnI T A) {x : HdV} (hx : x ∈ A) (hr : 0 < x.r) : T.get x.id = some x.ch := TbV.get_of h.ok (h.live hx hr)
theorem OnI.fid_live (h : OnI T A) {x : HdV} (hx : x ∈ A) (hr : 0 < x.r) : T.fid x.s = some x.id := (TbV.fid_iff h.ok _ _).2 ⟨x.ch, h.live hx hr, rfl, rfl⟩
theorem OnI.no_data (h : OnI T A) {s : List UInt8} (hs : ∀ x ∈ A, x.s = s → x.r = 0) : ∀ c ∈ T.L, c.s ≠ s := fun c hc e => by
  obtain ⟨x, hx, hr, rfl⟩ := (h.mem c).1 hc
  have := hs x hx e
  omega
theorem OnI.dead_only (h : OnI T A) {x : HdV} (hx : x ∈ A) (hr : x.r = 0) : ∀ y ∈ A, y.s = x.s → y.r = 0 := fun y hy e => by
  rw [key_eq HdV.s h.ds hy hx e]; exact hr
theorem OnI.find_none (h : OnI T A) {s : List UInt8} (hs : ∀ x ∈ A, x.s = s → x.r = 0) : T.find s = none := TbV.find_no (h.no_data hs)
theorem OnI.fid_none (h : OnI T A) {s : List UInt8} (hs : ∀ x ∈ A, x.s = s → x.r = 0) : T.fid s = none := by
  rw [TbV.fid_find h.ok, h.find_none hs]; rfl
theorem OnI.get_dead (h : OnI T A) {x : HdV} (hx : x ∈ A) (hr : x.r = 0) : T.get x.id = none := TbV.get_none.2 (h.dead x hx hr)
theorem OnI.count (h : OnI T A) : T.L.length = (A.filter fun x => decide (0 < x.r)).length := by
  have hp : T.L.Perm ((A.filter fun x => decide (0 < x.r)).map HdV.ch) := by
    rw [List.perm_ext_iff_of_nodup]
    · intro c
      rw [h.mem, List.mem_map]
      constructor
      · rintro ⟨x, hx, hr, e⟩
        exact ⟨x, List.mem_filter.2 ⟨hx, decide_eq_true hr⟩, e⟩
      · rintro ⟨x, hx, e⟩
        obtain ⟨h1, h2⟩ := List.mem_filter.1 hx
        exact ⟨x, h1, of_decide_eq_true h2, e⟩
    · exact h.ok.up.imp fun hab he => by subst he; omega
    · rw [List.nodup_iff_pairwise_ne, List.pairwise_map]
      exact (h.ds.sublist List.filter_sublist).imp fun hab he => hab (congrArg ChV.s he)
  rw [hp.length_eq, List.length_map]
/-- A content that never was there. -/
theorem OnI.add (h : OnI T A) {s : List UInt8} {b : Int} (hok : ChV.ok ⟨T.nx, s, b, 1⟩) (hs : ∀ x ∈ A, x.s ≠ s) : OnI (T.put ⟨T.nx, s, b, 1⟩) (A ++ [⟨s, T.nx, b, 1⟩]) := by
  have hn1 : ∀ y ∈ T.L, y.id ≠ T.nx := fun y hy => by have := h.ok.lt y hy; omega
  have hn2 : ∀ y ∈ T.L, y.s ≠ s := h.no_data fun x hx e => absurd e (hs x hx)
  have hnx : (T.put ⟨T.nx, s, b, 1⟩).nx = T.nx + 1 := if_pos (Nat.le_refl _)
  refine ⟨TbV.put_ok h.ok hok hn1 hn2, ?_, fun c => ?_, fun x hx hr c hc => ?_, fun x hx => ?_⟩
  · rw [List.pairwise_append]
    exact ⟨h.ds, List.pairwise_singleton _ _, fun x hx y hy => by rw [List.mem_singleton] at hy; subst hy; exact hs x hx⟩
  · rw [TbV.put_mem]
    constructor
    · rintro (rfl | hc)
      · exact ⟨⟨s, T.nx, b, 1⟩, List.mem_append_right _ (List.mem_singleton.2 rfl), Nat.one_pos, rfl⟩
      · obtain ⟨x, hx, hr, e⟩ := (h.mem c).1 hc
        exact ⟨x, List.mem_append_left _ hx, hr, e⟩
    · rintro ⟨x, hx, hr, e⟩
      rcases List.mem_append.1 hx with hx | hx
      · exact .inr ((h.mem c).2 ⟨x, hx, hr, e⟩)
      · rw [List.mem_singleton] at hx; subst hx; exact .inl e.symm
  · rcases List.mem_append.1 hx with hx | hx
    · rcases (TbV.put_mem T _ c).1 hc with rfl | hc
      · have := h.lt x hx; show T.nx ≠ x.id; omega
      · exact h.dead x hx hr c hc
    · rw [List.mem_singleton] at hx; subst hx; cases hr
  · rw [hnx]
    rcases List.mem_append.1 hx with hx | hx
    · have := h.lt x hx; omega
    · rw [List.mem_singleton] at hx; subst hx; show T.nx < T.nx + 1; omega
/-- A content that was let go comes back, with a new id. -/
theorem OnI.again (h : OnI T A) {k : Nat} (hk : k < A.length) (hr : A[k].r = 0) {b : Int} (hok : ChV.ok ⟨T.nx, A[k].s, b, 1⟩) : OnI (T.put ⟨T.nx, A[k].s, b, 1⟩) (A.set k ⟨A[k].s, T.nx, b, 1⟩) := by
  have hn1 : ∀ y ∈ T.L, y.id ≠ T.nx := fun y hy => by have := h.ok.lt y hy; omega
  have hn2 : ∀ y ∈ T.L, y.s ≠ A[k].s := h.no_data (h.dead_only (List.getElem_mem hk) hr)
  have hnx : (T.put ⟨T.nx, A[k].s, b, 1⟩).nx = T.nx + 1 := if_pos (Nat.le_refl _)
  have hset := mem_set_key HdV.s h.ds hk (x := ⟨A[k].s, T.nx, b, 1⟩) rfl
  refine ⟨TbV.put_ok h.ok hok hn1 hn2, pairwise_set_key HdV.s h.ds hk rfl, fun c => ?_, fun x hx hr2 c hc => ?_, fun x hx => ?_⟩
  · rw [TbV.put_mem]
    constructor
    · rintro (rfl | hc)
      · exact ⟨_, (hset _).2 (.inl rfl), Nat.one_pos, rfl⟩
      · obtain ⟨x, hx, hr2, e⟩ := (h.mem c).1 hc
        refine ⟨x, (hset _).2 (.inr ⟨hx, fun e2 => ?_⟩), hr2, e⟩
        have := h.dead_only (List.getElem_mem hk) hr x hx e2
        omega
    · rintro ⟨x, hx, hr2, e⟩
      rcases (hset x).1 hx with rfl | ⟨hx, _⟩
      · exact .inl e.symm
      · exact .inr ((h.mem c).2 ⟨x, hx, hr2, e⟩)
  · rcases (hset x).1 hx with rfl | ⟨hx, _⟩
    · cases hr2
    · rcases (TbV.put_mem T _ c).1 hc with rfl | hc
      · have := h.lt x hx; show T.nx ≠ x.id; omega
      · exact h.dead x hx hr2 c hc
  · rw [hnx]
    rcases (hset x).1 hx with rfl | ⟨hx, _⟩
    · show T.nx < T.nx + 1; omega
    · have := h.lt x hx; omega
/-- References of a content change. -/
theorem OnI.refs (h : OnI T A) {k j : Nat} (hk : k < A.length) (hr : 0 < A[k].r) (hj : T.at A[k].id = some j) {n : Nat} (h1 : 1 ≤ n) (h2 : n ≤ 65535) :
    ∃ hjl : j < T.L.length, T.L[j] = A[k].ch ∧ OnI ⟨T.L.set j { T.L[j] with r := n }, T.nx⟩ (A.set k { A[k] with r := n }) := by
  obtain ⟨hjl, hid⟩ := TbV.at_some hj
  have hm := h.live (List.getElem_mem hk) hr
  have he : T.L[j] = A[k].ch := by
    obtain ⟨q, hq, e⟩ := List.getElem_of_mem hm
    have := TbV.at_of h.ok hq (by rw [e]; rfl : T.L[q].id = A[k].id)
    rw [this] at hj
    cases hj
    exact e
  refine ⟨hjl, he, ?_⟩
  have hx := h.ok.ch _ (List.getElem_mem hjl)
  have hset := mem_set_key HdV.s h.ds hk (x := { A[k] with r := n }) rfl
  have hms := TbV.set_mem h.ok hjl (x := { T.L[j] with r := n }) rfl
  have hce : ({ T.L[j] with r := n } : ChV) = HdV.ch { A[k] with r := n } := by rw [he]; rfl
  refine ⟨TbV.set_ok h.ok hjl rfl rfl ⟨hx.i1, hx.i2, hx.s1, hx.s2, hx.b, h1, h2⟩, pairwise_set_key HdV.s h.ds hk rfl, fun c => ?_, fun x hx2 hr2 c hc => ?_, fun x hx2 => ?_⟩
  · show c ∈ T.L.set j _ ↔ _
    rw [hms]
    constructor
    · rintro (rfl | ⟨hc, hne⟩)
      · exact ⟨_, (hset _).2 (.inl rfl), h1, hce.symm⟩
      · obtain ⟨x, hx2, hr2, e⟩ := (h.mem c).1 hc
        refine ⟨x, (hset _).2 (.inr ⟨hx2, fun e2 => ?_⟩), hr2, e⟩
        have := key_eq HdV.s h.ds hx2 (List.getElem_mem hk) e2
        subst this
        exact hne (by rw [← e]; show A[k].id = T.L[j].id; rw [hid])
    · rintro ⟨x, hx2, hr2, e⟩
      rcases (hset x).1 hx2 with rfl | ⟨hx2, hne⟩
      · exact .inl (by rw [← e, hce])
      · have hc := (h.mem c).2 ⟨x, hx2, hr2, e⟩
        refine .inr ⟨hc, fun e2 => ?_⟩
        have hcj : c = T.L[j] := key_eq ChV.id (h.ok.up.imp fun hab he => by omega) hc (List.getElem_mem hjl) e2
        rw [he, ← e] at hcj
        exact hne (congrArg ChV.s hcj)
  · have hc2 : ∃ c' ∈ T.L, c'.id = c.id := by
      rcases (hms c).1 hc with rfl | ⟨hc, _⟩
      · exact ⟨_, List.getElem_mem hjl, rfl⟩
      · exact ⟨c, hc, rfl⟩
    obtain ⟨c', hc', e⟩ := hc2
    rcases (hset x).1 hx2 with rfl | ⟨hx2, _⟩
    · have hr2 : n = 0 := hr2
      omega
    · rw [← e]; exact h.dead x hx2 hr2 c' hc'
  · rcases (hset x).1 hx2 with rfl | ⟨hx2, _⟩
    · have := h.lt A[k] (List.getElem_mem hk); exact this
    · exact h.lt x hx2
/-- The last reference goes. -/
theorem OnI.gone (h : OnI T A) {k j : Nat} (hk : k < A.length) (hr : 0 < A[k].r) (hj : T.at A[k].id = some j) :
    OnI ⟨T.L.eraseIdx j, T.nx⟩ (A.set k { A[k] with r := 0 }) := by
  obtain ⟨hjl, hid⟩ := TbV.at_some hj
  have hm := h.live (List.getElem_mem hk) hr
  have hset := mem_set_key HdV.s h.ds hk (x := { A[k] with r := 0 }) rfl
  have hms := TbV.del_mem h.ok hjl
  refine ⟨TbV.del_ok h.ok hjl, pairwise_set_key HdV.s h.ds hk rfl, fun c => ?_, fun x hx2 hr2 c hc => ?_, fun x hx2 => ?_⟩
  · show c ∈ T.L.eraseIdx j ↔ _
    rw [hms]
    constructor
    · rintro ⟨hc, hne⟩
      obtain ⟨x, hx2, hr2, e⟩ := (h.mem c).1 hc
      refine ⟨x, (hset _).2 (.inr ⟨hx2, fun e2 => ?_⟩), hr2, e⟩
      have := key_eq HdV.s h.ds hx2 (List.getElem_mem hk) e2
      subst this
      exact hne (by rw [← e]; show A[k].id = T.L[j].id; rw [hid])
    · rintro ⟨x, hx2, hr2, e⟩
      rcases (hset x).1 hx2 with rfl | ⟨hx2, hne⟩
      · exact absurd hr2 (Nat.lt_irrefl 0)
      · have hc := (h.mem c).2 ⟨x, hx2, hr2, e⟩
        refine ⟨hc, fun e2 => ?_⟩
        have hcj : c = A[k].ch := key_eq ChV.id (h.ok.up.imp fun hab he => by omega) hc hm (e2.trans hid)
        rw [← e] at hcj
        exact hne (congrArg ChV.s hcj)
  · obtain ⟨hc, hne⟩ := (hms c).1 hc
    rcases (hset x).1 hx2 with rfl | ⟨hx2, _⟩
    · show c.id ≠ A[k].id
      rw [← hid]; exact hne
    · exact h.dead x hx2 hr2 c hc
  · rcases (hset x).1 hx2 with rfl | ⟨hx2, _⟩
    · have := h.lt A[k] (List.getElem_mem hk); exact this
    · exact h.lt x hx2
end
end Go.Proofs.Ytjodkgbpbibfbaa
