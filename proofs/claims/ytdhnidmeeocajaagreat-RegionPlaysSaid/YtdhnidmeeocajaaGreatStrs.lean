/- Plain words on slices of structs: elements of c cells each, one behind the other. Of no program. No condition. -/
import Derived.Test.YtdhnidmeeocajaaGreatRow
import Derived.Test.YtdhnidmeeocajaaGreatDvD
import Derived.Deep.MidRow
import Derived.Test.YtdhnidmeeocajaaGreatLnD
import Derived.Test.YtdhnidmeeocajaaGreatDvM
import Derived.Test.YtdhnidmeeocajaaGreatRows
import Derived.WalkKit
import Derived.ProofKit
import Derived.OpenShut
import Derived.ShutString
import Derived.Carry
import Derived.Deep.Slices
import Derived.Deep.Fields
section
namespace Go.Proofs.YtdhnidmeeocajaaGreat
open Go.RowKit

section
variable {α : Type} (enc : α → List Value) {c : Nat}
/-- The cells of some elements. -/
def flat (l : List α) : List Value := l.flatMap enc
theorem flat_len (hc : ∀ x, (enc x).length = c) (l : List α) : (flat enc l).length = l.length * c := by
  induction l with
  | nil => simp [flat]
  | cons x l ih =>
    have : flat enc (x :: l) = enc x ++ flat enc l := rfl
    rw [this, List.length_append, ih, hc, List.length_cons, Nat.add_mul]; omega
theorem flat_append (l m : List α) : flat enc (l ++ m) = flat enc l ++ flat enc m := by simp [flat]
theorem flat_one (h1 : ∀ x, ∀ u ∈ enc x, u.oneCell' = true) (l : List α) : ∀ u ∈ flat enc l, u.oneCell' = true := fun u hu => by
  obtain ⟨p, _, h⟩ := List.mem_flatMap.1 hu
  exact h1 p u h
theorem flat_at (hc : ∀ x, (enc x).length = c) : ∀ (l : List α) (k : Nat) (h : k < l.length) (j : Nat), j < c → (flat enc l)[k * c + j]? = (enc l[k])[j]? := by
  intro l
  induction l with
  | nil => intro k h; simp at h
  | cons x l ih =>
    intro k h j hj
    have e : flat enc (x :: l) = enc x ++ flat enc l := rfl
    rw [e]
    cases k with
    | zero =>
      rw [Nat.zero_mul, Nat.zero_add, List.getElem?_append_left (by rw [hc]; exact hj)]
      rfl
    | succ k =>
      have h2 : k < l.length := by simpa using h
      rw [List.getElem?_append_right (by rw [hc, Nat.add_mul]; omega), hc, show (k + 1) * c + j - c = k * c + j from by rw [Nat.add_mul]; omega, ih k h2 j hj]
      rfl
theorem flat_take (hc : ∀ x, (enc x).length = c) : ∀ (l : List α) (k : Nat), (flat enc l).take (k * c) = flat enc (l.take k) := by
  intro l
  induction l with
  | nil => intro k; simp [flat]
  | cons x l ih =>
    intro k
    cases k with
    | zero => simp [flat]
    | succ k =>
      have e : flat enc (x :: l) = enc x ++ flat enc l := rfl
      have e2 : flat enc ((x :: l).take (k + 1)) = enc x ++ flat enc (l.take k) := rfl
      rw [e, e2, List.take_append, hc, show (k + 1) * c - c = k * c from by rw [Nat.add_mul]; omega, ih k, List.take_of_length_le (by rw [hc, Nat.add_mul]; omega)]
theorem flat_drop (hc : ∀ x, (enc x).length = c) : ∀ (l : List α) (k : Nat), (flat enc l).drop (k * c) = flat enc (l.drop k) := by
  intro l
  induction l with
  | nil => intro k; simp [flat]
  | cons x l ih =>
    intro k
    cases k with
    | zero => simp [flat]
    | succ k =>
      have e : flat enc (x :: l) = enc x ++ flat enc l := rfl
      have e2 : flat enc ((x :: l).drop (k + 1)) = flat enc (l.drop k) := rfl
      rw [e, e2, List.drop_append, hc, show (k + 1) * c - c = k * c from by rw [Nat.add_mul]; omega, ih k, List.drop_of_length_le (by rw [hc, Nat.add_mul]; omega)]
      rfl

/-- The cells of one element of a slice that is only read. -/
theorem Sl.elem {w : World} {a : Option Addr} {cap : Nat} {l : List α} (hc : ∀ x, (enc x).length = c) (h : Sl w c (.slice a l.length cap) l.length (flat enc l)) (k : Nat) (hk : k < l.length) (h0 : 0 < c) :
    ∃ g off, a = some ⟨g, off, none⟩ ∧ g < w.heap.size ∧ ∀ j, j < c → w.cell? ⟨g, off + (k * c + j), none⟩ = (enc l[k])[j]? := by
  have hlt : ∀ j, j < c → k * c + j < l.length * c := fun j hj => by
    have := Nat.mul_le_mul_right c (show k + 1 ≤ l.length from hk)
    rw [Nat.add_mul] at this; omega
  obtain ⟨g, off, rfl, hg, _⟩ := h.at (k * c + 0) (hlt 0 h0)
  refine ⟨g, off, rfl, hg, fun j hj => ?_⟩
  obtain ⟨g', off', e, _, h2⟩ := h.at (k * c + j) (hlt j hj)
  cases e
  rw [h2, flat_at enc hc l k hk j hj]
/-- Of a slice of the call's own. -/
theorem Row.elem {w : World} {v : Value} {l : List α} (hc : ∀ x, (enc x).length = c) (h : Row w c v l.length (flat enc l)) (k : Nat) (hk : k < l.length) :
    ∃ g cap, v = .slice (some ⟨g, 0, none⟩) l.length cap ∧ l.length ≤ cap ∧ cap ≤ maxLen ∧ ∀ j, j < c → w.cell? ⟨g, k * c + j, none⟩ = (enc l[k])[j]? := by
  rcases h.2 with ⟨_, e⟩ | ⟨g, cap, rfl, h1, h2, h3, h4, h5⟩
  · omega
  · refine ⟨g, cap, rfl, h1, h2, fun j hj => ?_⟩
    have hlt : k * c + j < l.length * c := by
      have := Nat.mul_le_mul_right c (show k + 1 ≤ l.length from hk)
      rw [Nat.add_mul] at this; omega
    rw [h4 _ hlt, flat_at enc hc l k hk j hj]
end
end Go.Proofs.YtdhnidmeeocajaaGreat
end
section
namespace Go.Proofs.YtdhnidmeeocajaaGreat
open Go.RowKit Go.Shelf

structure A3 where
  k : Nat
  q : Int
  s : List UInt8
  hk : k < 256
  hq : Z64 q
  hs : s.length ≤ 9223372036854775807
def a3c (x : A3) : List Value := [.int .u8 (x.k : Nat), .int .i64 x.q, .string (bs x.s)]
theorem a3c_len (x : A3) : (a3c x).length = 3 := rfl
def A3L (w : World) (v : Value) (l : List A3) : Prop := Sl w 3 v l.length (flat a3c l)
section
variable {w w' : World} {v : Value} {l : List A3}
theorem A3L.keepF (h : A3L w v l) (hf : Frm (fun _ => False) w w') : A3L w' v l := Sl.keepF h hf
theorem A3L.keep {X : Nat → Prop} (h : A3L w v l) (hf : Frm X w w') (hn : ∀ g, g < w.heap.size → X g → False) : A3L w' v l := Sl.keepF h (hf.mono fun k hk hx => hn k hk hx)
theorem A3L.slice (h : A3L w v l) : ∃ a cap, v = .slice a l.length cap ∧ l.length ≤ cap ∧ cap ≤ maxLen := Sl.slice h
theorem A3L.elem {a : Option Addr} {cap : Nat} (h : A3L w (.slice a l.length cap) l) (k : Nat) (hk : k < l.length) : ∃ g off, a = some ⟨g, off, none⟩ ∧ g < w.heap.size ∧ w.cell? ⟨g, off + k * 3, none⟩ = some (.int .u8 (l[k].k : Nat)) ∧ w.cell? ⟨g, off + k * 3 + 1, none⟩ = some (.int .i64 l[k].q) ∧ w.cell? ⟨g, off + k * 3 + 2, none⟩ = some (.string (bs l[k].s)) := by
  obtain ⟨g, off, rfl, h0, hc⟩ := Sl.elem a3c a3c_len h k hk (by omega)
  exact ⟨g, off, rfl, h0, hc 0 (by omega), by rw [Nat.add_assoc]; exact hc 1 (by omega), by rw [Nat.add_assoc]; exact hc 2 (by omega)⟩
end
end Go.Proofs.YtdhnidmeeocajaaGreat
end
section
namespace Go.Proofs.YtdhnidmeeocajaaGreat
open Go.RowKit Go.Shelf

theorem LV.act_live {L : LV} (D' : DV) (h : L.down = false) (hne : (L.acts : Int) ≠ L.cut) : L.act D' = { L.count with D := D' } := by
  unfold LV.act
  rw [h, if_neg Bool.false_ne_true, if_pos hne]
theorem LV.act_cut {L : LV} (D' : DV) (h : L.down = false) (he : (L.acts : Int) = L.cut) : L.act D' = if L.odd then ({ L.count with D := D' } : LV).fall else L.count.fall := by
  unfold LV.act
  rw [h, if_neg Bool.false_ne_true, if_neg (not_not_intro he)]
theorem LV.act_over {L : LV} (D' : DV) (h : L.down = true) : L.act D' = L := by
  unfold LV.act
  rw [if_pos h]
def LV.writeAct (L : LV) (q : Int) (s : List UInt8) : LV := L.act (L.D.writeTo q s)
theorem writeTo_n (D : DV) (q : Int) (s : List UInt8) : (D.writeTo q s).n = D.n := by
  unfold DV.writeTo
  split <;> rfl
theorem cut2 (c : Int) : ((((LV.new (DV.new 256) 1 [c]).writeAct 5 [97, 98]).writeAct 6 [99, 100]).down = true) ∧ (((LV.new (DV.new 256) 1 [c]).writeAct 5 [97, 98]).writeAct 6 [99, 100]).acts = 2 := by
  have e1 : (LV.new (DV.new 256) 1 [c]).writeAct 5 [97, 98] = ⟨(DV.new 256).writeTo 5 [97, 98], 1, [c], 1, false, fun _ => True⟩ := rfl
  rw [e1]
  unfold LV.writeAct
  rw [LV.act_cut _ rfl rfl]
  split <;> exact ⟨rfl, rfl⟩
theorem code_down {L : LV} (h : L.down = true) (c : Nat) : L.code c = 8 := by
  unfold LV.code
  rw [if_pos (.inl h)]
theorem Frm.toNewX {w w1 w2 : World} {l f x : Nat} (g1 : Frm (fun _ => False) w w1) (g2 : Frm (LnX l f x) w1 w2) (h : w.heap.size ≤ l ∧ w.heap.size ≤ f ∧ w.heap.size ≤ x) : Frm (fun _ => False) w w2 := g1.next g2 fun j hj e => by unfold LnX at e; omega
end Go.Proofs.YtdhnidmeeocajaaGreat
end
section
namespace Go.Proofs.YtdhnidmeeocajaaGreat
namespace DV
theorem at_rank {D : DV} (h : D.ok) {k : Nat} (hk : (D.X k).isSome = true) : D.fresh[D.rank k]? = some k := by
  obtain ⟨i, hi, e⟩ := List.getElem_of_mem (h.mem.2 hk)
  have hr : D.rank k = i := by rw [← e]; exact D.rank_at i hi
  rw [hr, List.getElem?_eq_getElem hi, e]
theorem not_rank {D : DV} (h : D.ok) {k i : Nat} (hk : (D.X k).isSome = false) : D.fresh[i]? ≠ some k := by
  intro e
  have := (h.mem (k := k)).1 (List.mem_of_getElem? e)
  rw [hk] at this
  cases this
theorem read_none {D : DV} {k : Nat} (h : D.X k = none) : D.read k = D.F k := by
  unfold read
  rw [h]
  rfl
end DV
end Go.Proofs.YtdhnidmeeocajaaGreat
end
section
namespace Go.Proofs.YtdhnidmeeocajaaGreat
/-- The fresh blocks, with their bytes. -/
def FLs (D : DV) : List (Nat × List UInt8) := D.fresh.map fun k => (k, (D.X k).getD [])
/-- The firm bytes of all blocks. -/
def FRs (D : DV) : List (List UInt8) := (List.range D.n).map D.F
theorem FLs_len (D : DV) : (FLs D).length = D.fresh.length := by simp [FLs]
theorem FRs_len (D : DV) : (FRs D).length = D.n := by simp [FRs]
theorem FRs_at (D : DV) (k : Nat) (h : k < (FRs D).length) : (FRs D)[k] = D.F k := by simp [FRs]
theorem FLs_at (D : DV) (i : Nat) (h : i < (FLs D).length) (h2 : i < D.fresh.length) : (FLs D)[i] = (D.fresh[i], (D.X D.fresh[i]).getD []) := by simp [FLs]
theorem fresh_split (D : DV) (q : Nat) (hq : q < D.n) : ∃ C, (∀ j ∈ C, q < j) ∧ D.fresh = (List.range q).filter (fun j => (D.X j).isSome) ++ ((if (D.X q).isSome then [q] else []) ++ C) ∧ C = (List.range' (q + 1) (D.n - q - 1)).filter (fun j => (D.X j).isSome) := by
  refine ⟨_, fun j hj => ?_, ?_, rfl⟩
  · rw [List.mem_filter, List.mem_range'_1] at hj
    omega
  · have e0 : List.range D.n = List.range q ++ (q :: List.range' (q + 1) (D.n - q - 1)) := by
      have := List.range'_append_1 (s := 0) (m := q) (n := D.n - q)
      rw [Nat.zero_add, show q + (D.n - q) = D.n by omega] at this
      rw [List.range_eq_range', List.range_eq_range', ← this, show D.n - q = (D.n - q - 1) + 1 by omega, List.range'_succ]
      rfl
    unfold DV.fresh
    rw [e0, List.filter_append, List.filter_cons]
    congr 1
    split <;> rfl
/-- Where a block stands among the fresh ones. -/
theorem place_rank (D : DV) (q k : Nat) (hq : q < D.n) (hk : k ≤ D.fresh.length) (h1 : ∀ j (h : j < D.fresh.length), j < k → D.fresh[j] < q) (h2 : ∀ h : k < D.fresh.length, q ≤ D.fresh[k]) : k = D.rank q := by
  obtain ⟨C, hC, hs, _⟩ := fresh_split D q hq
  have hA : ∀ j ∈ (List.range q).filter (fun j => (D.X j).isSome), j < q := fun j hj => by
    rw [List.mem_filter, List.mem_range] at hj
    exact hj.1
  have hM : ∀ j ∈ (if (D.X q).isSome then [q] else []) ++ C, q ≤ j := fun j hj => by
    rcases List.mem_append.1 hj with h | h
    · split at h
      · simp at h; omega
      · cases h
    · have := hC j h; omega
  obtain ⟨A, hAe⟩ : ∃ A, (List.range q).filter (fun j => (D.X j).isSome) = A := ⟨_, rfl⟩
  obtain ⟨M, hMe⟩ : ∃ M, (if (D.X q).isSome then [q] else []) ++ C = M := ⟨_, rfl⟩
  have hr : D.rank q = A.length := by unfold DV.rank; rw [hAe]
  rw [hAe] at hA hs
  rw [hMe] at hM hs
  rw [hr]
  have hlen : D.fresh.length = A.length + M.length := by rw [hs, List.length_append]
  rcases Nat.lt_trichotomy k A.length with hlt | rfl | hgt
  · exfalso
    have hkl : k < D.fresh.length := by omega
    have := h2 hkl
    have e : D.fresh[k] = A[k] := by
      simp only [hs]
      rw [List.getElem_append_left hlt]
    rw [e] at this
    have := hA _ (List.getElem_mem hlt)
    omega
  · rfl
  · exfalso
    have hal : A.length < D.fresh.length := by omega
    have := h1 A.length hal hgt
    have e : D.fresh[A.length] = M[0]'(by omega) := by
      simp only [hs]
      rw [List.getElem_append_right (Nat.le_refl _)]
      simp
    rw [e] at this
    have := hM _ (List.getElem_mem (show 0 < M.length by omega))
    omega
theorem FLs_write (D : DV) (q : Nat) (s : List UInt8) (hq : q < D.n) : FLs (D.write q s) = (FLs D).take (D.rank q) ++ ((q, padB s) :: (FLs D).drop (D.rank q + if (D.X q).isSome then 1 else 0)) := by
  obtain ⟨C, hC, hs, hCe⟩ := fresh_split D q hq
  obtain ⟨C', _, hs', hCe'⟩ := fresh_split (D.write q s) q hq
  obtain ⟨A, hAe⟩ : ∃ A, (List.range q).filter (fun j => (D.X j).isSome) = A := ⟨_, rfl⟩
  have hX : ∀ j, j ≠ q → (D.write q s).X j = D.X j := fun j hj => by unfold DV.write; dsimp only; rw [if_neg hj]
  have hXq : (D.write q s).X q = some (padB s) := by unfold DV.write; dsimp only; rw [if_pos rfl]
  have hA' : (List.range q).filter (fun j => ((D.write q s).X j).isSome) = A := by
    rw [← hAe]
    refine List.filter_congr fun j hj => ?_
    rw [List.mem_range] at hj
    rw [hX j (by omega)]
  have hC' : C' = C := by
    rw [hCe', hCe]
    refine List.filter_congr fun j hj => ?_
    rw [List.mem_range'_1] at hj
    rw [hX j (by omega)]
  rw [hA', hXq, hC'] at hs'
  rw [hAe] at hs
  have hr : D.rank q = A.length := by unfold DV.rank; rw [hAe]
  have hAq : ∀ j ∈ A, j ≠ q := fun j hj => by
    rw [← hAe, List.mem_filter, List.mem_range] at hj
    omega
  have hCq : ∀ j ∈ C, j ≠ q := fun j hj => by have := hC j hj; omega
  unfold FLs
  rw [hs', hs, hr, List.map_append, List.map_append, List.map_append, List.map_append]
  have m1 : A.map (fun k => (k, ((D.write q s).X k).getD [])) = A.map (fun k => (k, (D.X k).getD [])) := List.map_congr_left fun j hj => by rw [hX j (hAq j hj)]
  have m2 : C.map (fun k => (k, ((D.write q s).X k).getD [])) = C.map (fun k => (k, (D.X k).getD [])) := List.map_congr_left fun j hj => by rw [hX j (hCq j hj)]
  rw [m1, m2]
  have hl : (A.map fun k => (k, (D.X k).getD [])).length = A.length := List.length_map ..
  rw [List.take_append_of_le_length (by omega), List.take_of_length_le (by omega)]
  congr 1
  cases hx : (D.X q).isSome with
  | true =>
    rw [if_pos rfl, if_pos rfl, ← hl, List.drop_length_add_append]
    simp [hXq]
  | false =>
    simp only [Option.isSome_some, if_true, Bool.false_eq_true, if_false, Nat.add_zero]
    rw [← hl, List.drop_left]
    simp [hXq]
theorem FRs_write (D : DV) (q : Nat) (s : List UInt8) : FRs (D.write q s) = FRs D := rfl
theorem FLs_none {D : DV} (h : ∀ k, D.X k = none) : FLs D = [] := by
  unfold FLs DV.fresh
  rw [List.filter_eq_nil_iff.2 (fun k _ => by rw [h k]; simp)]
  rfl
theorem FRs_set (D : DV) (q : Nat) (l : List UInt8) : (FRs D).set q l = FRs ⟨D.n, fun j => if j = q then l else D.F j, D.X⟩ := by
  unfold FRs
  apply List.ext_getElem
  · simp
  · intro i h1 h2
    rw [List.getElem_set]
    by_cases e : q = i
    · subst e; simp
    · rw [if_neg e]; simp [Ne.symm e]
/-- The place of what is there. -/
theorem FLs_rank {D : DV} (h : D.ok) {q : Nat} {l : List UInt8} (hx : D.X q = some l) : (FLs D)[D.rank q]? = some (q, l) := by
  have := DV.at_rank h (k := q) (by rw [hx]; rfl)
  unfold FLs
  rw [List.getElem?_map, this]
  simp [hx]
end Go.Proofs.YtdhnidmeeocajaaGreat
end
section
namespace Go.Proofs.YtdhnidmeeocajaaGreat
open Go.ChangeShapes Go.WideShapes Go.ChangeAt Go.RowKit

theorem trodAll_keep {H : Type} {enc : TypeId × Value → H} {P : Program} (hl : laidOutB P = true) {W W' : World} (hb : Below W.heap.size W W') :
    ∀ (ts : List TypeId) (vs : List Value) (ds : List (DataW H)) (ps : List MemPlace), ts.all (fun t => P.readableRec t && decide (t < P.types.size)) = true →
      DataW.TrodAll enc P W 0 (fun _ => true) true ts vs ds ps → (∀ x ∈ ps, x.block < W.heap.size) → DataW.TrodAll enc P W' 0 (fun b => decide (b < W.heap.size)) true ts vs ds ps := by
  intro ts
  induction ts with
  | nil => intro vs ds ps _ h _; cases vs <;> cases ds <;> exact h
  | cons t ts ih =>
    intro vs ds ps hr h hlt
    cases vs with
    | nil => exact h.elim
    | cons v vs =>
      cases ds with
      | nil => exact h.elim
      | cons d ds =>
        obtain ⟨p, q, h1, h2, rfl⟩ := h
        rw [List.all_cons, Bool.and_eq_true, Bool.and_eq_true] at hr
        exact ⟨p, q, Below.trod hl hr.1.1 (of_decide_eq_true hr.1.2) h1 hb (fun x hx => hlt x (List.mem_append_left _ hx)), ih vs ds q hr.2 h2 (fun x hx => hlt x (List.mem_append_right _ hx)), rfl⟩

theorem lawPost {H : Type} {enc : TypeId × Value → H} {P : Program} {f : Func} {s : ChangeSpec} {apart fresh handsOn : Bool} {W W' : World} {args : Array Value} {ds gs : List (DataW H)} {before : List MemPlace} {tb : TypeId}
    (hl : laidOutB P = true) (hr : f.params.toList.all (fun t => P.readableRec t && decide (t < P.types.size)) = true) (hv : s.vars = []) (hrt : f.resultTypes = #[tb]) (htb : P.underlying tb = some .bool)
    (hW : DataW.Whole enc P f.params.toList s.vars apart W args.toList ds gs before) (hfn : s.fn H (ds ++ gs) = { results := [.lit (.bool true)], args := ds }) (hb : Below W.heap.size W W') :
    s.post enc P f apart fresh handsOn false W args (.bool true) W' := by
  have hW0 := hW
  obtain ⟨p, q, h1, h2, h3, h4, h5⟩ := hW0
  refine ⟨ds, gs, before, [], p, [], hW, ?_, ?_, ?_, ?_, fun h => by cases h⟩
  · rw [hfn, hrt]
    exact trodAll_cons_mk (shut_bool htb _) trodAll_mk0
  · rw [hfn]
    refine trodAll_keep hl hb _ _ _ _ hr h1 fun x hx => ?_
    have hlt := hW.lt x (by rw [h3]; exact List.mem_append_left _ hx)
    simpa using hlt
  · rw [hfn, hv]
    exact rfl
  · exact hb.frame _
end Go.Proofs.YtdhnidmeeocajaaGreat
end
section
namespace Go.Proofs.YtdhnidmeeocajaaGreat
open Go.ChangeShapes Go.WideShapes Go.ChangeAt Go.RowKit Go.Deep
section
variable {H : Type} {enc : TypeId × Value → H} {P : Program} {w : World} {base : Nat} {spare : Nat → Bool} {held : Bool}
theorem spot_of_cell {a : Addr} {v : Value} (h : w.cell? a = some v) : a.spot = none := by
  unfold World.cell? at h
  split at h
  · split at h
    · cases h
    · rename_i hs; simpa using hs
  · cases h
/-- What a row's first cell tells of its address. -/
theorem addr_of_cell {a : Addr} {v : Value} (h : w.cell? (a.add 0) = some v) : ∃ b off, a = ⟨b, off, none⟩ ∧ b < w.heap.size := by
  have h0 : a.add 0 = a := by simp [Addr.add]
  rw [h0] at h
  obtain ⟨b, off, sp⟩ := a
  have hs : sp = none := spot_of_cell h
  subst hs
  exact ⟨b, off, rfl, World.block_lt_of_cell? w _ h⟩
end
theorem listOf {α : Type} {p : Nat → α → Prop} : ∀ n, (∀ i, i < n → ∃ x, p i x) → ∃ l : List α, l.length = n ∧ ∀ i (h : i < l.length), p i l[i] := by
  intro n
  induction n with
  | zero => intro _; exact ⟨[], rfl, fun i h => by simp at h⟩
  | succ n ih =>
    intro h
    obtain ⟨l, hl, hp⟩ := ih fun i hi => h i (by omega)
    obtain ⟨x, hx⟩ := h n (by omega)
    refine ⟨l ++ [x], by simp [hl], fun i hi => ?_⟩
    by_cases hin : i < l.length
    · rw [List.getElem_append_left hin]; exact hp i hin
    · have : i = n := by simp at hi; omega
      subst this
      rw [List.getElem_append_right (by omega)]
      simpa [hl] using hx
end Go.Proofs.YtdhnidmeeocajaaGreat
end
section
namespace Go.Proofs.YtdhnidmeeocajaaGreat
open Go.ChangeShapes Go.WideShapes Go.ChangeAt Go.RowKit Go.Deep
/-- Texts, as cells. -/
def strs (l : List (List UInt8)) : List Value := l.map fun s => Value.string (bs s)
theorem strs_length (l : List (List UInt8)) : (strs l).length = l.length := by simp [strs]
theorem strs_append (a b : List (List UInt8)) : strs (a ++ b) = strs a ++ strs b := by simp [strs]
theorem strs_take (l : List (List UInt8)) (k : Nat) : (strs l).take k = strs (l.take k) := by simp [strs, List.map_take]
theorem strs_drop (l : List (List UInt8)) (k : Nat) : (strs l).drop k = strs (l.drop k) := by simp [strs, List.map_drop]
theorem strs_get (l : List (List UInt8)) (k : Nat) (h : k < l.length) : (strs l)[k]? = some (.string (bs l[k])) := by simp [strs, h]
theorem strs_one (l : List (List UInt8)) : ∀ u ∈ strs l, u.oneCell' = true := fun u hu => by
  obtain ⟨_, _, rfl⟩ := List.mem_map.1 hu
  rfl
/-- A slice of texts, only read. -/
def Strs (w : World) (v : Value) (l : List (List UInt8)) : Prop := Sl w 1 v l.length (strs l)
/-- A slice of texts that the call holds by itself. -/
def OwnS (w : World) (v : Value) (l : List (List UInt8)) : Prop := Row w 1 v l.length (strs l)
section
variable {w w' : World} {v : Value} {l : List (List UInt8)}
theorem OwnS.reads (h : OwnS w v l) : Strs w v l := Sl.ofRow h
theorem OwnS.keep {X : Nat → Prop} (h : OwnS w v l) (hf : Frm X w w') (hn : ∀ g, v.ownBlock = some g → ¬ X g) : OwnS w' v l := Row.keep h hf hn
theorem OwnS.nil_ (w : World) : OwnS w (.slice none 0 0) [] := Row.nil_ w 1
theorem Strs.keepF (h : Strs w v l) (hf : Frm (fun _ => False) w w') : Strs w' v l := Sl.keepF h hf
theorem Strs.slice (h : Strs w v l) : ∃ a cap, v = .slice a l.length cap ∧ l.length ≤ cap ∧ cap ≤ maxLen := Sl.slice h
theorem Strs.at {a : Option Addr} {n cap : Nat} (h : Strs w (.slice a n cap) l) (k : Nat) (hk : k < l.length) : ∃ g off, a = some ⟨g, off, none⟩ ∧ g < w.heap.size ∧ w.cell? ⟨g, off + k, none⟩ = some (.string (bs l[k])) := by
  obtain ⟨a', cap', e, _⟩ := Sl.slice h
  cases e
  obtain ⟨g, off, e1, e2, e3⟩ := Sl.at h k (by omega)
  exact ⟨g, off, e1, e2, by rw [e3, strs_get l k hk]⟩
/-- The first k of them. -/
theorem Strs.ahead {a : Option Addr} {n cap : Nat} (h : Strs w (.slice a n cap) l) (k : Nat) (hk : k ≤ n) : Strs w (.slice a k cap) (l.take k) := by
  obtain ⟨a', cap', e, hc, _⟩ := Sl.slice h
  cases e
  have h2 := Sl.take h k cap hk (by omega) (Nat.le_refl _)
  rw [Nat.mul_one, strs_take] at h2
  have e : (l.take k).length = k := by simp; omega
  unfold Strs
  rw [e]; exact h2
/-- What stands behind the first k of them. -/
theorem Strs.behind {a : Option Addr} {n cap : Nat} (h : Strs w (.slice a n cap) l) (k : Nat) (hk : k ≤ n) : Strs w (.slice (if cap = k then a else a.map (·.add k)) (n - k) (cap - k)) (l.drop k) := by
  obtain ⟨a', cap', e, hc, _⟩ := Sl.slice h
  cases e
  have h2 := Sl.drop h k hk
  rw [Nat.mul_one, strs_drop] at h2
  have e : (l.drop k).length = l.length - k := by simp
  unfold Strs
  rw [e]; exact h2
end
end Go.Proofs.YtdhnidmeeocajaaGreat
end
