/- Toward the document's At: its appends; a directory is the same as a directory alone. No condition. -/
import Derived.Test.YtiokabhidjafeaaDoorRkX
section
namespace Go.Proofs.YtiokabhidjafeaaDoor
open Go.RowKit

theorem Tryd.info54 : (Tryd.prog.info? 54).map (fun i => (i.zero, i.size, i.bytes)) = some (some (.agg #[.string ⟨#[]⟩, .bool false, .bool false, .string ⟨#[]⟩, .slice none 0 0]), 5, 64) := by kernel_rfl
theorem append_rseen (w : World) (v x : Value) (P Q : List (SeenI × Value)) (h : Row w 5 v P.length (flat sec P)) (hs : Sl w 5 x Q.length (flat sec Q)) (h1 : ∀ u ∈ flat sec Q, u.oneCell' = true) (hb : P.length + Q.length ≤ 1000000) :
    ∃ v' w', (Builtin.append_ #[49, 49] 49 #[v, x]).run Tryd.prog w = .ok v' w' ∧ Row w' 5 v' (P ++ Q).length (flat sec (P ++ Q)) ∧ w.grownBy w' v.ownBlock ∧ (∀ g, v'.ownBlock = some g → v.ownBlock = some g ∨ w.heap.size ≤ g) := by
  obtain ⟨i0, hi, hz0, hz1, hz2⟩ := info_parts Tryd.info54
  obtain ⟨v', w', h1, h2, h3, h4⟩ := run_append_row w 49 49 49 54 i0 (.agg #[.string ⟨#[]⟩, .bool false, .bool false, .string ⟨#[]⟩, .slice none 0 0]) 5 64 Tryd.underlying49 hi hz0 hz1 hz2 rfl h x Q.length (flat sec Q)
    (Sl.src hs Tryd.underlying49 h1) (by unfold maxLen; omega) (by omega)
  exact ⟨v', w', h1, by rw [List.length_append, flat_append]; exact h2, h3, h4⟩
theorem lowB_slash : ∀ c : UInt8, lowB c = 47 → c = 47 := by
  intro c h
  unfold lowB at h
  split at h
  · rename_i hc
    have := congrArg UInt8.toNat h
    rw [UInt8.toNat_ofNat] at this
    simp at this
    omega
  · exact h
theorem small_slash (x : List UInt8) : (small x == [47]) = (x == [47]) := by
  rw [Bool.eq_iff_iff, beq_iff_eq, beq_iff_eq]
  constructor
  · intro h
    match x, h with
    | [c], h =>
      have : lowB c = 47 := by simpa [small] using h
      rw [lowB_slash c this]
    | [], h => simp [small] at h
    | _ :: _ :: _, h => simp [small] at h
  · rintro rfl
    rfl
/-- A directory is the same as directories, and as nothing else, by either way to tell. -/
theorem sameR_dir (q : Bool) (x y : List UInt8) (hx : isDir x = true) : sameR q x y = isDir y := by
  unfold isDir at *
  have hx' : x = [47] := by simpa using hx
  subst hx'
  unfold sameR
  have e1 : (([47] : List UInt8) == y) = (y == [47]) := by rw [Bool.eq_iff_iff, beq_iff_eq, beq_iff_eq]; exact eq_comm
  have e2 : (small [47] == small y) = (small y == [47]) := by
    rw [show small [47] = [47] from rfl, Bool.eq_iff_iff, beq_iff_eq, beq_iff_eq]; exact eq_comm
  rw [e1, e2, small_slash]
  cases (y == [47]) <;> cases q <;> rfl
theorem sameR_not (q : Bool) (x y : List UInt8) (hy : isDir y = true) : sameR q x y = isDir x := by
  unfold isDir at *
  have hy' : y = [47] := by simpa using hy
  subst hy'
  unfold sameR
  rw [show small [47] = [47] from rfl, small_slash]
  cases (x == [47]) <;> cases q <;> rfl
end Go.Proofs.YtiokabhidjafeaaDoor
end
section
namespace Go.Proofs.YtiokabhidjafeaaDoor
open Go.RowKit

theorem addG_filt {p p' : List UInt8 → List UInt8 → Bool} {f : List UInt8 → Bool} (h1 : ∀ a b, p a b = true → f a = f b) (h2 : ∀ a b, f a = true → f b = true → p' a b = p a b) (x : SibI) : ∀ L : List GrpI, (addG p L x).filter (fun g => f g.s) = if f x.s then addG p' (L.filter (fun g => f g.s)) x else L.filter (fun g => f g.s) := by
  intro L
  induction L with
  | nil =>
    cases hf : f x.s <;> simp [addG, hf]
  | cons g gs ih =>
    unfold addG
    by_cases hp : p g.s x.s = true
    · have hfg := h1 _ _ hp
      rw [if_pos hp]
      cases hf : f x.s with
      | true =>
        rw [hf] at hfg
        rw [if_pos rfl, List.filter_cons_of_pos (by simpa using hfg), List.filter_cons_of_pos (by simpa using hfg)]
        dsimp only
        rw [if_pos (by rw [h2 _ _ hfg hf]; exact hp)]
      | false =>
        rw [hf] at hfg
        rw [if_neg (by decide), List.filter_cons_of_neg (by simpa using hfg), List.filter_cons_of_neg (by simpa using hfg)]
    · rw [if_neg hp]
      cases hg : f g.s with
      | true =>
        rw [List.filter_cons_of_pos (by simpa using hg), ih, List.filter_cons_of_pos (by simpa using hg)]
        cases hf : f x.s with
        | true =>
          rw [if_pos rfl, if_pos rfl]
          dsimp only
          rw [if_neg (by rw [h2 _ _ hg hf]; exact hp)]
        | false => rw [if_neg (by decide), if_neg (by decide)]
      | false =>
        rw [List.filter_cons_of_neg (by simpa using hg), ih, List.filter_cons_of_neg (by simpa using hg)]
        cases hf : f x.s with
        | true => rw [if_pos rfl, if_pos rfl]; cases List.filter (fun g => f g.s) gs <;> rfl
        | false => rw [if_neg (by decide), if_neg (by decide)]
theorem fold_filt {p p' : List UInt8 → List UInt8 → Bool} {f : List UInt8 → Bool} (h1 : ∀ a b, p a b = true → f a = f b) (h2 : ∀ a b, f a = true → f b = true → p' a b = p a b) : ∀ (xs : List SibI) (L : List GrpI), (xs.foldl (addG p) L).filter (fun g => f g.s) = (xs.filter (fun x => f x.s)).foldl (addG p') (L.filter (fun g => f g.s)) := by
  intro xs
  induction xs with
  | nil => intro L; rfl
  | cons x xs ih =>
    intro L
    rw [List.foldl_cons, ih, addG_filt h1 h2]
    cases hf : f x.s with
    | true => rw [if_pos rfl, List.filter_cons_of_pos (by simpa using hf), List.foldl_cons]
    | false => rw [if_neg (by decide), List.filter_cons_of_neg (by simpa using hf)]
theorem grps_filt {p p' : List UInt8 → List UInt8 → Bool} {f : List UInt8 → Bool} (h1 : ∀ a b, p a b = true → f a = f b) (h2 : ∀ a b, f a = true → f b = true → p' a b = p a b) (l : List SibI) : (grps p l).filter (fun g => f g.s) = grps p' (l.filter (fun x => f x.s)) := by
  unfold grps
  rw [fold_filt h1 h2, List.filter_reverse]
  rfl
theorem sameR_alike (q : Bool) (a b : List UInt8) (h : sameR q a b = true) : isDir a = isDir b := by
  cases ha : isDir a with
  | true => rw [sameR_dir q a b ha] at h; exact h.symm
  | false =>
    cases hb : isDir b with
    | true => rw [sameR_not q a b hb, ha] at h; exact h
    | false => rfl
/-- What the document's At sees, by its words. -/
def seenR (cf : List UInt8 → DotI → List UInt8) (nm : List UInt8) (q : Bool) (l : List SibI) : List SeenI :=
  ((grps (sameR q) l).filter (fun g => isDir g.s)).map (seeD nm) ++ seenG cf nm ((grps (sameR q) l).filter (fun g => isDir g.s)).length ((grps (sameR q) l).filter (fun g => !isDir g.s))
theorem seenR_eq (cf : List UInt8 → DotI → List UInt8) (nm : List UInt8) (q : Bool) (l : List SibI) : seenR cf nm q l = seenA cf nm (sameR q) isDir l := by
  have e1 : (grps (sameR q) l).filter (fun g => isDir g.s) = grps (fun _ _ => true) (l.filter (fun x => isDir x.s == true)) := by
    rw [grps_filt (p' := fun _ _ => true) (f := isDir) (sameR_alike q) (fun a b ha hb => by rw [sameR_dir q a b ha, hb])]
    congr 1
    exact List.filter_congr fun x _ => by simp
  have e2 : (grps (sameR q) l).filter (fun g => !isDir g.s) = grps (sameR q) (l.filter (fun x => isDir x.s == false)) := by
    rw [grps_filt (p' := sameR q) (f := fun a => !isDir a) (fun a b h => by rw [sameR_alike q a b h]) (fun a b _ _ => rfl)]
    congr 1
    exact List.filter_congr fun x _ => by cases isDir x.s <;> rfl
  unfold seenR seenA
  rw [e1, e2]
end Go.Proofs.YtiokabhidjafeaaDoor
end
