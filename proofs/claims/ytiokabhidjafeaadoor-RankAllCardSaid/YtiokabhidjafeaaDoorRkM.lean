/- A register of nothing, and how a register's cells and siblings are read. No condition. -/
import Derived.Test.YtiokabhidjafeaaDoorSibD
section
namespace Go.Proofs.YtiokabhidjafeaaDoor
open Go.RowKit

/-- No register's cells. -/
abbrev rz : Array Value := #[.int .u32 0, .int .u32 0, .int .u32 0, .int .u32 0, .int .u32 0, .int .u32 0, .int .u32 0, .int .u32 0, .slice none 0 0]
theorem rcells {T : TypeId} {w : World} {b : Nat} {f : Nat → Nat} {v : Value} (h : Blk w b T (rgc f v)) : ∀ k, k < 8 → w.cell? ⟨b, k, none⟩ = some (.int .u32 (f k)) := fun k hk => by
  rcases lt8 hk with rfl | rfl | rfl | rfl | rfl | rfl | rfl | rfl <;> exact h.cell _ rfl
theorem rg_one (f : Nat → Nat) (a : Option Addr) (n c : Nat) : (rgc f (.slice a n c)).all (·.oneCell') = true := by simp [Value.oneCell']
theorem SL.cells {w : World} {a : Option Addr} {cap : Nat} {l : List SibI} (h : SL w (.slice a l.length cap) l) (k : Nat) (hk : k < l.length) :
    ∃ g off, a = some ⟨g, off, none⟩ ∧ w.cell? ⟨g, off + k * 3, none⟩ = some (.int .u8 l[k].r) ∧ w.cell? ⟨g, off + k * 3 + 1, none⟩ = some (.int .u32 l[k].n) ∧ w.cell? ⟨g, off + k * 3 + 2, none⟩ = some (.string (bs l[k].s)) := by
  obtain ⟨g, off, rfl, _, hc⟩ := Sl.elem sibc sibc_len h k hk (by omega)
  exact ⟨g, off, rfl, hc 0 (by omega), by rw [Nat.add_assoc]; exact hc 1 (by omega), by rw [Nat.add_assoc]; exact hc 2 (by omega)⟩
end Go.Proofs.YtiokabhidjafeaaDoor
end
section
namespace Go.Proofs.YtiokabhidjafeaaDoor
open Go.RowKit

/-- A group: its value, and its dots. -/
structure GrpI where
  s : List UInt8
  d : List DotI
theorem GrpI.ext' {x y : GrpI} (h1 : x.s = y.s) (h2 : x.d = y.d) : x = y := by cases x; cases y; simp only at h1 h2; subst h1 h2; rfl
/-- A sibling comes to the groups. -/
def addG (p : List UInt8 → List UInt8 → Bool) : List GrpI → SibI → List GrpI
  | [], x => [⟨x.s, [x.d]⟩]
  | g :: gs, x => if p g.s x.s then ⟨g.s, g.d ++ [x.d]⟩ :: gs else g :: addG p gs x
/-- The groups, from the last sibling to the first one. -/
def grps (p : List UInt8 → List UInt8 → Bool) (l : List SibI) : List GrpI := l.reverse.foldl (addG p) []
theorem addG_found {p : List UInt8 → List UInt8 → Bool} {x : SibI} : ∀ {L : List GrpI} {k : Nat} (hk : k < L.length), p L[k].s x.s = true → (∀ j (hj : j < L.length), j < k → p L[j].s x.s = false) → addG p L x = L.set k ⟨L[k].s, L[k].d ++ [x.d]⟩ := by
  intro L
  induction L with
  | nil => intro k hk; cases hk
  | cons g gs ih =>
    intro k hk h1 h2
    cases k with
    | zero =>
      have h1' : p g.s x.s = true := h1
      simp [addG, h1']
    | succ k =>
      have h0 : p g.s x.s = false := h2 0 (by simp) (by omega)
      have hk' : k < gs.length := by simpa using hk
      have := ih hk' h1 (fun j hj hjk => h2 (j + 1) (by simpa using hj) (by omega))
      simp [addG, h0, this]
theorem addG_new {p : List UInt8 → List UInt8 → Bool} {x : SibI} : ∀ {L : List GrpI}, (∀ j (hj : j < L.length), p L[j].s x.s = false) → addG p L x = L ++ [⟨x.s, [x.d]⟩] := by
  intro L
  induction L with
  | nil => intro _; rfl
  | cons g gs ih =>
    intro h
    have h0 : p g.s x.s = false := h 0 (by simp)
    have := ih (fun j hj => h (j + 1) (by simpa using hj))
    simp [addG, h0, this]
theorem addG_len {p : List UInt8 → List UInt8 → Bool} {x : SibI} : ∀ {L : List GrpI}, (addG p L x).length ≤ L.length + 1 := by
  intro L
  induction L with
  | nil => simp [addG]
  | cons g gs ih =>
    unfold addG
    split
    · simp
    · simp; exact ih
theorem addG_s {p : List UInt8 → List UInt8 → Bool} {x : SibI} {Q : List UInt8 → Prop} (hx : Q x.s) : ∀ {L : List GrpI}, (∀ g ∈ L, Q g.s) → ∀ g ∈ addG p L x, Q g.s := by
  intro L
  induction L with
  | nil => intro _ g hg; simp [addG] at hg; subst hg; exact hx
  | cons g0 gs ih =>
    intro h g hg
    unfold addG at hg
    split at hg
    · rcases List.mem_cons.1 hg with rfl | hg
      · exact h g0 List.mem_cons_self
      · exact h g (List.mem_cons_of_mem _ hg)
    · rcases List.mem_cons.1 hg with rfl | hg
      · exact h g List.mem_cons_self
      · exact ih (fun q hq => h q (List.mem_cons_of_mem _ hq)) g hg
theorem addG_d {p : List UInt8 → List UInt8 → Bool} {x : SibI} {n : Nat} : ∀ {L : List GrpI}, (∀ g ∈ L, g.d.length ≤ n) → ∀ g ∈ addG p L x, g.d.length ≤ n + 1 := by
  intro L
  induction L with
  | nil => intro _ g hg; simp [addG] at hg; subst hg; simp
  | cons g0 gs ih =>
    intro h g hg
    unfold addG at hg
    split at hg
    · rcases List.mem_cons.1 hg with rfl | hg
      · have := h g0 List.mem_cons_self
        simp; exact this
      · exact Nat.le_succ_of_le (h g (List.mem_cons_of_mem _ hg))
    · rcases List.mem_cons.1 hg with rfl | hg
      · exact Nat.le_succ_of_le (h g List.mem_cons_self)
      · exact ih (fun q hq => h q (List.mem_cons_of_mem _ hq)) g hg
/-- What holds of all groups. -/
structure GOk (L : List GrpI) (n : Nat) : Prop where
  len : L.length ≤ n
  s : ∀ g ∈ L, g.s.length ≤ 200
  d : ∀ g ∈ L, g.d.length ≤ n
theorem gok_fold {p : List UInt8 → List UInt8 → Bool} : ∀ (xs : List SibI) (L : List GrpI) (n : Nat), GOk L n → (∀ x ∈ xs, x.s.length ≤ 200) → GOk (xs.foldl (addG p) L) (n + xs.length) := by
  intro xs
  induction xs with
  | nil => intro L n h _; exact h
  | cons x xs ih =>
    intro L n h hx
    have h1 : GOk (addG p L x) (n + 1) := ⟨Nat.le_trans addG_len (by have := h.len; omega), addG_s (Q := fun s => s.length ≤ 200) (hx x List.mem_cons_self) h.s, addG_d h.d⟩
    have := ih (addG p L x) (n + 1) h1 (fun y hy => hx y (List.mem_cons_of_mem _ hy))
    simp only [List.foldl_cons, List.length_cons]
    rw [show n + (xs.length + 1) = n + 1 + xs.length from by omega]
    exact this
theorem gok_grps {p : List UInt8 → List UInt8 → Bool} (l : List SibI) (h : ∀ x ∈ l, x.s.length ≤ 200) : GOk (grps p l) l.length := by
  have := gok_fold (p := p) l.reverse [] 0 ⟨Nat.le_refl _, fun g h => (by cases h), fun g h => (by cases h)⟩ (fun x hx => h x (List.mem_reverse.1 hx))
  simpa [grps] using this
end Go.Proofs.YtiokabhidjafeaaDoor
end
