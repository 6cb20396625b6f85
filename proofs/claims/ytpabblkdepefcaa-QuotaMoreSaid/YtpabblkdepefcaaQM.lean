/- Items, which of them are older, which may go, which go: the mathematics, of no program. No condition. -/
import Derived.Test.YtpabblkdepefcaaStM
import Derived.Shelf.SlSortCmp.Insertion
namespace Go.Proofs.Ytpabblkdepefcaa
open Go.Sort

/-- An item: its path, ID and tick, its size. -/
structure QI where
  path : List UInt8
  id : Nat
  tick : Nat
  size : Int
  hp : path.length ≤ 9223372036854775807
  hi : id ≤ 4294967295
  ht : tick ≤ 4294967295
  hs : -9223372036854775808 ≤ size ∧ size ≤ 9223372036854775807
theorem QI.ext' {a b : QI} (h1 : a.path = b.path) (h2 : a.id = b.id) (h3 : a.tick = b.tick) (h4 : a.size = b.size) : a = b := by
  obtain ⟨p, i, t, s, _, _, _, _⟩ := a
  obtain ⟨p', i', t', s', _, _, _, _⟩ := b
  simp only at h1 h2 h3 h4
  subst h1 h2 h3 h4
  rfl
instance : DecidableEq QI := fun a b =>
  if h1 : a.path = b.path then if h2 : a.id = b.id then if h3 : a.tick = b.tick then if h4 : a.size = b.size then isTrue (QI.ext' h1 h2 h3 h4)
    else isFalse (fun e => h4 (by rw [e])) else isFalse (fun e => h3 (by rw [e])) else isFalse (fun e => h2 (by rw [e])) else isFalse (fun e => h1 (by rw [e]))
def zQ : QI := ⟨[], 0, 0, 0, by simp, by omega, by omega, by omega⟩
/-- What a size counts as. -/
def szQ (x : QI) : Nat := if x.size < 0 then 0 else if 65536 < x.size then 65536 else x.size.toNat
theorem szQ_le (x : QI) : szQ x ≤ 65536 := by unfold szQ; split <;> (try split) <;> omega
def sumQ : List QI → Nat
  | [] => 0
  | x :: l => szQ x + sumQ l
theorem sumQ_append (a b : List QI) : sumQ (a ++ b) = sumQ a + sumQ b := by
  induction a with
  | nil => simp [sumQ]
  | cons x a ih => simp only [List.cons_append, sumQ, ih]; omega
theorem sumQ_perm {a b : List QI} (h : a.Perm b) : sumQ a = sumQ b := by
  induction h with
  | nil => rfl
  | cons x _ ih => simp only [sumQ, ih]
  | swap x y l => simp only [sumQ]; omega
  | trans _ _ ih1 ih2 => rw [ih1, ih2]
theorem sumQ_le (l : List QI) : sumQ l ≤ l.length * 65536 := by
  induction l with
  | nil => simp [sumQ]
  | cons x l ih => have := szQ_le x; simp only [sumQ, List.length_cons, Nat.add_mul]; omega

/-- An item, and which one it was. -/
abbrev QG := QI × Nat
instance : Inhabited QG := ⟨(zQ, 0)⟩
/-- Is x older than y? -/
def oldQ (x y : QG) : Bool := decide (x.1.tick < y.1.tick) || (decide (x.1.tick = y.1.tick) && (decide (x.1.id < y.1.id) || (decide (x.1.id = y.1.id) && decide (x.2 < y.2))))
theorem oldQ_iff {x y : QG} : oldQ x y = true ↔ x.1.tick < y.1.tick ∨ x.1.tick = y.1.tick ∧ (x.1.id < y.1.id ∨ x.1.id = y.1.id ∧ x.2 < y.2) := by simp [oldQ]
theorem oldQ_iff' {x y : QG} : oldQ x y = false ↔ ¬ (x.1.tick < y.1.tick ∨ x.1.tick = y.1.tick ∧ (x.1.id < y.1.id ∨ x.1.id = y.1.id ∧ x.2 < y.2)) := by
  rw [← oldQ_iff]; simp
/-- How two items' ages compare, their places aside. -/
def cmpN (a b : Nat) : Int := if a < b then -1 else if b < a then 1 else 0
def cmpQ (x y : QI) : Int := if cmpN x.tick y.tick = 0 then cmpN x.id y.id else cmpN x.tick y.tick
def cmpG (x y : QG) : Int := cmpQ x.1 y.1
theorem cmpQ_neg {x y : QI} : cmpQ x y < 0 ↔ x.tick < y.tick ∨ x.tick = y.tick ∧ x.id < y.id := by
  unfold cmpQ cmpN
  by_cases h1 : x.tick < y.tick
  · simp [h1]
  · by_cases h2 : y.tick < x.tick
    · have : ¬ x.tick = y.tick := by omega
      simp [h1, h2, this]
    · by_cases h3 : x.id < y.id
      · have : x.tick = y.tick := by omega
        simp [this, h3]
      · by_cases h4 : y.id < x.id <;> simp [h1, h2, h3, h4]
def ogQ (x y : QG) : Prop := x.2 < y.2
theorem cmpG_old (x y : QG) (h : ogQ x y) : ltOf cmpG y x = oldQ y x := by
  unfold ogQ at h
  rw [Bool.eq_iff_iff, oldQ_iff]
  unfold ltOf
  rw [decide_eq_true_eq]
  unfold cmpG
  rw [cmpQ_neg]
  constructor
  · rintro (h1 | ⟨h1, h2⟩)
    · exact .inl h1
    · exact .inr ⟨h1, .inl h2⟩
  · rintro (h1 | ⟨h1, h2 | ⟨_, h2⟩⟩)
    · exact .inl h1
    · exact .inr ⟨h1, h2⟩
    · omega
theorem oldQ_swo : SWO oldQ where
  irrefl x := oldQ_iff'.2 (by omega)
  trans x y z h1 h2 := by rw [oldQ_iff] at *; omega
  ntrans x y z h1 h2 := by rw [oldQ_iff'] at *; omega
/-- The sorted list. -/
def srtQ (l : List QG) : List QG := l.mergeSort (fun x y => !oldQ y x)
theorem srtQ_perm (l : List QG) : (srtQ l).Perm l := List.mergeSort_perm _ _
/-- No two are the same one. -/
def Apt (l : List QG) : Prop := l.Pairwise fun x y => x.2 ≠ y.2
theorem Apt.perm {l m : List QG} (h : Apt l) (hp : l.Perm m) : Apt m := (hp.pairwise_iff (fun h e => h e.symm)).1 h
theorem Apt.inj {l : List QG} (h : Apt l) {x y : QG} (hx : x ∈ l) (hy : y ∈ l) (e : x.2 = y.2) : x = y := by
  induction l with
  | nil => cases hx
  | cons z l ih =>
    obtain ⟨h1, h2⟩ := List.pairwise_cons.1 h
    rcases List.mem_cons.1 hx with hx1 | hx1
    · rcases List.mem_cons.1 hy with hy1 | hy1
      · rw [hx1, hy1]
      · exact absurd e (by rw [hx1]; exact h1 y hy1)
    · rcases List.mem_cons.1 hy with hy1 | hy1
      · exact absurd e.symm (by rw [hy1]; exact h1 x hx1)
      · exact ih h2 hx1 hy1
theorem Apt.nodup {l : List QG} (h : Apt l) : l.Nodup := List.Pairwise.imp (fun h e => h (by rw [e])) h
theorem Apt.total {l : List QG} (h : Apt l) {x y : QG} (hx : x ∈ l) (hy : y ∈ l) (h1 : oldQ x y = false) (h2 : oldQ y x = false) : x = y := by
  rw [oldQ_iff'] at h1 h2
  exact h.inj hx hy (by omega)
/-- Ascending. -/
def AscQ (l : List QG) : Prop := l.Pairwise fun x y => oldQ x y = true
theorem srtQ_asc {l : List QG} (h : Apt l) : AscQ (srtQ l) := by
  have h1 : (srtQ l).Pairwise fun x y => (!oldQ y x) = true := List.pairwise_mergeSort (fun a b c h1 h2 => by
    simp only [Bool.not_eq_true'] at h1 h2 ⊢
    exact oldQ_swo.ntrans c b a h2 h1) (fun a b => by
    cases h : oldQ b a with
    | false => simp
    | true => simp [oldQ_swo.asymmA h]) _
  have h2 : Apt (srtQ l) := h.perm (srtQ_perm l).symm
  have h3 := h1.and h2
  refine List.Pairwise.imp ?_ h3
  rintro x y ⟨h1, h2⟩
  simp only [Bool.not_eq_true'] at h1
  rw [oldQ_iff'] at h1
  rw [oldQ_iff]
  omega
theorem asc_unique {a b : List QG} (ha : AscQ a) (hb : AscQ b) (hp : a.Perm b) : a = b :=
  List.Perm.eq_of_pairwise (le := fun x y => oldQ x y = true) (fun x y _ _ h1 h2 => by
    have := oldQ_swo.asymmA h1
    rw [this] at h2; cases h2) ha hb hp
/-- What a stable sort made of an array. -/
theorem srtQ_sorted {d d' : Array QG} (h : Apt d.toList) (hP : PermIn 0 d.size d d') (hS : SortedIn oldQ 0 d.size d') : d'.toList = srtQ d.toList := by
  obtain ⟨hsz, _, hperm⟩ := hP
  have e1 : d'.extract 0 d.size = d' := by rw [← hsz]; exact Array.extract_size
  rw [e1, Array.extract_size] at hperm
  have h2 : Apt d'.toList := h.perm hperm.symm
  refine asc_unique ?_ (srtQ_asc h) (hperm.trans (srtQ_perm _).symm)
  have h1 : d'.toList.Pairwise fun x y => oldQ y x = false := by
    rw [List.pairwise_iff_getElem]
    intro i j hi hj hij
    have hi' : i < d'.size := by simpa using hi
    have hj' : j < d'.size := by simpa using hj
    have := hS i j (Nat.zero_le _) hij (by omega)
    rw [getElem!_pos d' j hj', getElem!_pos d' i hi'] at this
    simpa using this
  refine List.Pairwise.imp ?_ (h1.and h2)
  rintro x y ⟨h1, h2⟩
  rw [oldQ_iff'] at h1
  rw [oldQ_iff]
  omega
/-- Those that may go: all but the last one of each path. -/
def sprQ : List QG → List QG
  | [] => []
  | x :: l => if l.any (fun y => decide (y.1.path = x.1.path)) then x :: sprQ l else sprQ l
theorem sprQ_mem {l : List QG} (ha : AscQ l) {y : QG} : y ∈ sprQ l ↔ y ∈ l ∧ ∃ z ∈ l, z.1.path = y.1.path ∧ oldQ y z = true := by
  induction l with
  | nil => simp [sprQ]
  | cons x l ih =>
    obtain ⟨h1, h2⟩ := List.pairwise_cons.1 ha
    have ih := ih h2
    have hself : oldQ x x = false := oldQ_swo.irrefl x
    unfold sprQ
    by_cases hc : l.any (fun y => decide (y.1.path = x.1.path)) = true
    · rw [if_pos hc, List.mem_cons, ih]
      obtain ⟨z, hz, hzp⟩ := List.any_eq_true.1 hc
      constructor
      · rintro (rfl | ⟨hy, z', hz', h3⟩)
        · exact ⟨List.mem_cons_self, z, List.mem_cons_of_mem _ hz, of_decide_eq_true hzp, h1 z hz⟩
        · exact ⟨List.mem_cons_of_mem _ hy, z', List.mem_cons_of_mem _ hz', h3⟩
      · rintro ⟨hy, z', hz', h3, h4⟩
        rcases List.mem_cons.1 hy with hy1 | hy1
        · exact .inl hy1
        · refine .inr ⟨hy1, z', ?_, h3, h4⟩
          rcases List.mem_cons.1 hz' with hz1 | hz1
          · have := oldQ_swo.asymmA (h1 y hy1)
            rw [hz1, this] at h4; cases h4
          · exact hz1
    · rw [if_neg hc, ih]
      constructor
      · rintro ⟨hy, z', hz', h3⟩
        exact ⟨List.mem_cons_of_mem _ hy, z', List.mem_cons_of_mem _ hz', h3⟩
      · rintro ⟨hy, z', hz', h3, h4⟩
        rcases List.mem_cons.1 hz' with hz1 | hz1
        · rcases List.mem_cons.1 hy with hy1 | hy1
          · rw [hz1, hy1, hself] at h4; cases h4
          · have := oldQ_swo.asymmA (h1 y hy1)
            rw [hz1, this] at h4; cases h4
        · rcases List.mem_cons.1 hy with hy1 | hy1
          · exact absurd (List.any_eq_true.2 ⟨z', hz1, decide_eq_true (by rw [h3, hy1])⟩) hc
          · exact ⟨hy1, z', hz1, h3, h4⟩
theorem sprQ_sub : ∀ l : List QG, (sprQ l).Sublist l
  | [] => List.Sublist.refl _
  | x :: l => by
    unfold sprQ
    split
    · exact (sprQ_sub l).cons_cons x
    · exact (sprQ_sub l).cons x
/-- The first one that may go, taken out. -/
theorem sprQ_erase : ∀ (l : List QG) (x : QG) (t : List QG), sprQ l = x :: t → l.Nodup → sprQ (l.erase x) = t
  | [], x, t, h, _ => by cases h
  | y :: l, x, t, h, hn => by
    obtain ⟨hn1, hn2⟩ := List.nodup_cons.1 hn
    unfold sprQ at h
    by_cases hc : l.any (fun z => decide (z.1.path = y.1.path)) = true
    · rw [if_pos hc] at h
      cases h
      rw [List.erase_cons_head]
    · rw [if_neg hc] at h
      have hx : x ∈ l := (sprQ_sub l).subset (by rw [h]; exact List.mem_cons_self)
      have hne : (y == x) = false := by
        rw [beq_eq_false_iff_ne]
        rintro rfl
        exact hn1 hx
      rw [List.erase_cons_tail (by rw [hne]; simp)]
      unfold sprQ
      rw [if_neg, sprQ_erase l x t h hn2]
      intro h2
      obtain ⟨z, hz, hzp⟩ := List.any_eq_true.1 h2
      exact hc (List.any_eq_true.2 ⟨z, List.mem_of_mem_erase hz, hzp⟩)
theorem srtQ_erase {l : List QG} (h : Apt l) (x : QG) : srtQ (l.erase x) = (srtQ l).erase x :=
  asc_unique (srtQ_asc (h.sublist List.erase_sublist)) ((srtQ_asc h).sublist List.erase_sublist) ((srtQ_perm _).trans ((srtQ_perm l).symm.erase x))
/-- What goes of those that may go, and what is left, when so much is there. -/
def goQ (most : Int) : Nat → List QG → List Nat × Nat
  | left, [] => ([], left)
  | left, x :: l => if (left : Int) ≤ most then ([], left) else (x.1.id :: (goQ most (left - szQ x.1) l).1, (goQ most (left - szQ x.1) l).2)
/-- What Prune answers. -/
def pruneQ (l : List QI) (most : Int) : List Nat × Bool :=
  if most < ((goQ most (sumQ l) (sprQ (srtQ l.zipIdx))).2 : Int) then ([], false) else ((goQ most (sumQ l) (sprQ (srtQ l.zipIdx))).1, true)
theorem zip_apt (l : List QI) : ∀ k, (l.zipIdx k).Pairwise fun x y => x.2 < y.2 := by
  intro k
  rw [List.pairwise_iff_getElem]
  intro i j hi hj hij
  simp
  omega
theorem zip_Apt (l : List QI) (k : Nat) : Apt (l.zipIdx k) := List.Pairwise.imp (fun h => by omega) (zip_apt l k)
theorem zip_fst (l : List QI) : ∀ k, (l.zipIdx k).map (·.1) = l := by
  induction l with
  | nil => intro k; rfl
  | cons x l ih => intro k; rw [List.zipIdx_cons, List.map_cons, ih]
end Go.Proofs.Ytpabblkdepefcaa
