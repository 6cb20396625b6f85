/- Same texts, by either way; Groups of a register; groups of a call's own, one more. No condition but that texts and registers aren't too long. -/
import Derived.Test.YtiokabhidjafeaaDoorRkF
import Derived.Test.YtiokabhidjafeaaDoorRkG
namespace Go.Proofs.YtiokabhidjafeaaDoor
open Go.RowKit Go.Shelf

theorem bs_ne {a b : List UInt8} (h : ¬ a = b) : ((bs a).toList == (bs b).toList) = false := by rw [bs_toList, bs_toList]; simp [h]
theorem sameR_eq (q : Bool) (a : List UInt8) : sameR q a a = true := by simp [sameR]
theorem sameR_no {a b : List UInt8} (h : ¬ a = b) : sameR false a b = false := by simp [sameR, h]
theorem sameR_yes {a b : List UInt8} (h : ¬ a = b) : sameR true a b = (small a == small b) := by simp [sameR, h]
set_option maxRecDepth 100000 in
set_option maxHeartbeats 4000000 in
theorem rsame_any (a b : List UInt8) (q : Bool) (w : World) (ha : a.length ≤ 1000) (hb : b.length ≤ 1000) : Calls Tryd.prog 27 #[.string (bs a), .string (bs b), .bool q] w fun e w' => e = .returned (.bool (sameR q a b)) ∧ Frm (fun _ => False) w w' := by
  have HA := Lib.hid (small_any a w ha)
  have HB := Lib.hid (fun W => small_any b W hb)
  by_cases hab : a = b
  · subst hab
    go_enter Tryd.func27, Tryd.ntmps27
    go_wp2_with fail
    go_ret
    exact ⟨by rw [sameR_eq]; rfl, Frm.refl _ _⟩
  · have hne := bs_ne hab
    have HN := Lib.hid hab
    clear hab
    cases q with
    | false =>
      go_enter Tryd.func27, Tryd.ntmps27
      go_wp2_with fail
      go_ret
      exact ⟨by rw [sameR_no HN.out]; rfl, Frm.refl _ _⟩
    | true =>
      go_enter Tryd.func27, Tryd.ntmps27
      go_wp2_with fail
      refine HA.out.mono ?_
      rintro e w1 ⟨rfl, g1⟩
      go_wp2_with fail
      refine (HB.out w1).mono ?_
      rintro e w2 ⟨rfl, g2⟩
      by_cases hs : small a = small b
      · have HS := Lib.hid hs
        rw [hs]
        clear hs
        go_wp2_with fail
        go_ret
        exact ⟨by rw [sameR_yes HN.out, HS.out]; simp, g1.trans g2⟩
      · have hs2 := bs_ne hs
        have HS := Lib.hid hs
        clear hs
        go_wp2_with fail
        go_ret
        exact ⟨by rw [sameR_yes HN.out]; simp [HS.out], g1.trans g2⟩
theorem loose_any (a b : List UInt8) (w : World) (ha : a.length ≤ 1000) (hb : b.length ≤ 1000) : Calls Tryd.prog 26 #[.string (bs a), .string (bs b)] w fun e w' => e = .returned (.bool (sameR true a b)) ∧ Frm (fun _ => False) w w' := by
  have HC := Lib.hid (rsame_any a b true w ha hb)
  go_enter Tryd.func26, Tryd.ntmps26
  go_wp2_with fail
  refine HC.out.mono ?_
  rintro e w1 ⟨rfl, g1⟩
  go_wp2_with fail
  go_ret
  exact ⟨rfl, g1⟩
theorem sameR_false (a b : List UInt8) : sameR false a b = (a == b) := by simp [sameR]
theorem same_just (w : World) : SameTo w (.func (.func 25) #[] #[]) (sameR false) :=
  ⟨_, _, rfl, enters_of Tryd.func25 (by kernel_rfl) rfl, fun a b W _ _ _ => by rw [sameR_false]; simpa using just_any a b W⟩
theorem same_loose (w : World) : SameTo w (.func (.func 26) #[] #[]) (sameR true) :=
  ⟨_, _, rfl, enters_of Tryd.func26 (by kernel_rfl) rfl, fun a b W _ ha hb => by simpa using loose_any a b W (by omega) (by omega)⟩
theorem same_alls (w : World) : SameTo w (.func (.func 52) #[] #[]) (fun _ _ => true) :=
  ⟨_, _, rfl, enters_of Tryd.func52 (by kernel_rfl) rfl, fun a b W _ _ _ => by simpa using alls_any (.string (bs a)) (.string (bs b)) W⟩
/-- Groups' answer: it will give these. -/
def GsTo (L : List GrpI) (w : World) (e : Ending) (w' : World) : Prop :=
  ∃ B u P, e = .returned (.func (.func 48) #[] #[.pointer (some ⟨B, 0, none⟩)]) ∧ w.heap.size ≤ B ∧ Blk w' B 30 #[u] ∧ GrO w.heap.size w' u P ∧ P.map Prod.fst = L ∧ Frm (fun _ => False) w w'
set_option maxRecDepth 100000 in
set_option maxHeartbeats 4000000 in
theorem groups_any (p : List UInt8 → List UInt8 → Bool) (f : Nat → Nat) (sv v : Value) (l : List SibI) (w : World) (h : SL w v l) (hp : SameTo w sv p) (hs : ∀ x ∈ l, x.s.length ≤ 200) (hb : l.length ≤ 1000) :
    Calls Tryd.prog 24 #[rg f v, sv] w (GsTo (grps p l) w) := by
  have hp' := hp
  obtain ⟨gf, caps, rfl, _, _⟩ := hp'
  have hmf : ∀ (fn : Fn) (first cap : Array Value) (w : World), (Instr.makeFunc fn first cap).run Tryd.prog w = .ok (.func fn first cap) w := fun _ _ _ _ => rfl
  have f0 : Frm (fun _ => False) w (w.alloc (.cells (rgc f v) 27)) := (Frm.refl _ w).alloc _
  have HP := Lib.hid hp
  have HSL := Lib.hid h
  clear hp h
  obtain ⟨a0, c0, rfl, _, _⟩ := HSL.out.slice
  go_enter Tryd.func24, Tryd.ntmps24
  go_wp2_with fail
  refine (sclone_any _ l _ (HSL.out.keepF f0) (by omega)).mono ?_
  rintro e w1 ⟨v', rfl, ho, f1, hn⟩
  obtain ⟨a1, c1, rfl, _, _⟩ := Row.slice ho
  go_wp2_with fail
  refine (grouped_any p _ _ l w1 ho (HP.out.keep (f0.trans f1)) hs hb).mono ?_
  rintro e w2 ⟨u, P, rfl, hG, hL, f2⟩
  obtain ⟨a2, c2, rfl, _, _⟩ := Row.slice hG.row
  go_wp2_with fail
  go_ret
  have gA : Frm (fun _ => False) w2 (w2.alloc (.cells #[.slice a2 P.length c2] 30)) := (Frm.refl _ w2).alloc _
  have hG2 := hG.keepF gA
  have hsz : w.heap.size ≤ w1.heap.size := (f0.trans f1).size
  exact ⟨w2.heap.size, _, P, rfl, Nat.le_trans hsz f2.size, Blk.alloc w2 _ _, ⟨hG2.row, hG2.dots, hG2.apart, hG2.apu, fun g e => Nat.le_trans hsz (hG2.lo g e), fun i hi g e => Nat.le_trans hsz (hG2.lod i hi g e)⟩, hL, ((f0.trans f1).trans f2).trans gA⟩
theorem GrO.tw {B n1 : Nat} {W W' : World} {u : Value} {P : List (GrpI × Value)} (h : GrO n1 W u P) (g : Tw B W W') : GrO n1 W' u P :=
  ⟨g.row h.row, fun i hi => g.row (h.dots i hi), h.apart, h.apu, h.lo, h.lod⟩
/-- One more group. -/
theorem GrO.add {n1 : Nat} {W W' : World} {u v' : Value} {P : List (GrpI × Value)} (h : GrO n1 W u P) (x : GrpI × Value) (hx : OwnE W x.2 x.1.d) (hxn : ∀ g, x.2.ownBlock = some g → n1 ≤ g ∧ u.ownBlock ≠ some g ∧ ∀ i (h : i < P.length), P[i].2.ownBlock ≠ some g)
    (hr : Row W' 2 v' (P ++ [x]).length (flat grc (P ++ [x]))) (hg : W.grownBy W' u.ownBlock) (ho : ∀ g, v'.ownBlock = some g → u.ownBlock = some g ∨ W.heap.size ≤ g) (hn : n1 ≤ W.heap.size) : GrO n1 W' v' (P ++ [x]) := by
  have hf : Frm (fun k => u.ownBlock = some k) W W' := (Frm.refl _ W).grown hg (fun k _ e => e)
  have hlast : ∀ i (hi : i < (P ++ [x]).length), (∃ h : i < P.length, (P ++ [x])[i] = P[i]) ∨ (i = P.length ∧ (P ++ [x])[i] = x) := fun i hi => by
    by_cases h : i < P.length
    · exact .inl ⟨h, List.getElem_append_left h⟩
    · rw [List.length_append, List.length_singleton] at hi
      obtain rfl : i = P.length := by omega
      exact .inr ⟨rfl, by simp⟩
  refine ⟨hr, fun i hi => ?_, fun i j hi hj hij g e => ?_, fun i hi g e => ?_, fun g e => ?_, fun i hi g e => ?_⟩
  · rcases hlast i hi with ⟨h1, e⟩ | ⟨_, e⟩
    · rw [e]; exact (h.dots i h1).keep hf (fun g e2 e3 => h.apu i h1 g e3 e2)
    · rw [e]; exact hx.keep hf (fun g e2 e3 => (hxn g e2).2.1 e3)
  · rcases hlast i hi with ⟨h1, e1⟩ | ⟨i1, e1⟩
    · rcases hlast j hj with ⟨h2, e2⟩ | ⟨j1, e2⟩
      · rw [e1] at e; rw [e2]; exact h.apart i j h1 h2 hij g e
      · rw [e1] at e; rw [e2]; intro hh; exact (hxn g hh).2.2 i h1 e
    · rcases hlast j hj with ⟨h2, e2⟩ | ⟨j1, e2⟩
      · rw [e1] at e; rw [e2]; exact (hxn g e).2.2 j h2
      · omega
  · rcases hlast i hi with ⟨h1, e1⟩ | ⟨_, e1⟩
    · rw [e1]
      intro e2
      rcases ho g e with e3 | e3
      · exact h.apu i h1 g e3 e2
      · have := Row.blk (h.dots i h1) g e2
        omega
    · rw [e1]
      intro e2
      rcases ho g e with e3 | e3
      · exact (hxn g e2).2.1 e3
      · have := Row.blk hx g e2
        omega
  · rcases ho g e with e3 | e3
    · exact h.lo g e3
    · omega
  · rcases hlast i hi with ⟨h1, e1⟩ | ⟨_, e1⟩
    · rw [e1] at e; exact h.lod i h1 g e
    · rw [e1] at e; exact (hxn g e).1
end Go.Proofs.YtiokabhidjafeaaDoor

