/- Plain words on slices of structs: elements of c cells each, one behind the other. Of no program. No condition. -/
import Derived.Test.YtfbaleomhghjeaaGreatRow
import Derived.Test.YtfbaleomhghjeaaGreatDvD
import Derived.Deep.MidRow
import Derived.Test.YtfbaleomhghjeaaGreatLnD
import Derived.Test.YtfbaleomhghjeaaGreatDvM
section
namespace Go.Proofs.YtfbaleomhghjeaaGreat
open Go.RowKit

section
variable {α : Type} (enc : α → List Value) {c : Nat}
/-- The cells of some elements. -/
def flat (l : List α) : List Value := l.flatMap enc
theorem flat_len (hc : ∀ x, (enc x).length = c) (l : List α) : (flat enc l).length = l.length * c := by
  induction l with
  | nil => simp [flat]
  | cons x l ih =>
    have : flat enc (x :: l) = enc x ++ flat enc l := rfl
    rw [this, List.length_append, ih, hc, List.length_cons, Nat.add_mul]; omega
theorem flat_at (hc : ∀ x, (enc x).length = c) : ∀ (l : List α) (k : Nat) (h : k < l.length) (j : Nat), j < c → (flat enc l)[k * c + j]? = (enc l[k])[j]? := by
  intro l
  induction l with
  | nil => intro k h; simp at h
  | cons x l ih =>
    intro k h j hj
    have e : flat enc (x :: l) = enc x ++ flat enc l := rfl
    rw [e]
    cases k with
    | zero =>
      rw [Nat.zero_mul, Nat.zero_add, List.getElem?_append_left (by rw [hc]; exact hj)]
      rfl
    | succ k =>
      have h2 : k < l.length := by simpa using h
      rw [List.getElem?_append_right (by rw [hc, Nat.add_mul]; omega), hc, show (k + 1) * c + j - c = k * c + j from by rw [Nat.add_mul]; omega, ih k h2 j hj]
      rfl
theorem flat_take (hc : ∀ x, (enc x).length = c) : ∀ (l : List α) (k : Nat), (flat enc l).take (k * c) = flat enc (l.take k) := by
  intro l
  induction l with
  | nil => intro k; simp [flat]
  | cons x l ih =>
    intro k
    cases k with
    | zero => simp [flat]
    | succ k =>
      have e : flat enc (x :: l) = enc x ++ flat enc l := rfl
      have e2 : flat enc ((x :: l).take (k + 1)) = enc x ++ flat enc (l.take k) := rfl
      rw [e, e2, List.take_append, hc, show (k + 1) * c - c = k * c from by rw [Nat.add_mul]; omega, ih k, List.take_of_length_le (by rw [hc, Nat.add_mul]; omega)]
theorem flat_drop (hc : ∀ x, (enc x).length = c) : ∀ (l : List α) (k : Nat), (flat enc l).drop (k * c) = flat enc (l.drop k) := by
  intro l
  induction l with
  | nil => intro k; simp [flat]
  | cons x l ih =>
    intro k
    cases k with
    | zero => simp [flat]
    | succ k =>
      have e : flat enc (x :: l) = enc x ++ flat enc l := rfl
      have e2 : flat enc ((x :: l).drop (k + 1)) = flat enc (l.drop k) := rfl
      rw [e, e2, List.drop_append, hc, show (k + 1) * c - c = k * c from by rw [Nat.add_mul]; omega, ih k, List.drop_of_length_le (by rw [hc, Nat.add_mul]; omega)]
      rfl

/-- The cells of one element of a slice that is only read. -/
theorem Sl.elem {w : World} {a : Option Addr} {cap : Nat} {l : List α} (hc : ∀ x, (enc x).length = c) (h : Sl w c (.slice a l.length cap) l.length (flat enc l)) (k : Nat) (hk : k < l.length) (h0 : 0 < c) :
    ∃ g off, a = some ⟨g, off, none⟩ ∧ g < w.heap.size ∧ ∀ j, j < c → w.cell? ⟨g, off + (k * c + j), none⟩ = (enc l[k])[j]? := by
  have hlt : ∀ j, j < c → k * c + j < l.length * c := fun j hj => by
    have := Nat.mul_le_mul_right c (show k + 1 ≤ l.length from hk)
    rw [Nat.add_mul] at this; omega
  obtain ⟨g, off, rfl, hg, _⟩ := h.at (k * c + 0) (hlt 0 h0)
  refine ⟨g, off, rfl, hg, fun j hj => ?_⟩
  obtain ⟨g', off', e, _, h2⟩ := h.at (k * c + j) (hlt j hj)
  cases e
  rw [h2, flat_at enc hc l k hk j hj]
/-- Of a slice of the call's own. -/
theorem Row.elem {w : World} {v : Value} {l : List α} (hc : ∀ x, (enc x).length = c) (h : Row w c v l.length (flat enc l)) (k : Nat) (hk : k < l.length) :
    ∃ g cap, v = .slice (some ⟨g, 0, none⟩) l.length cap ∧ l.length ≤ cap ∧ cap ≤ maxLen ∧ ∀ j, j < c → w.cell? ⟨g, k * c + j, none⟩ = (enc l[k])[j]? := by
  rcases h.2 with ⟨_, e⟩ | ⟨g, cap, rfl, h1, h2, h3, h4, h5⟩
  · omega
  · refine ⟨g, cap, rfl, h1, h2, fun j hj => ?_⟩
    have hlt : k * c + j < l.length * c := by
      have := Nat.mul_le_mul_right c (show k + 1 ≤ l.length from hk)
      rw [Nat.add_mul] at this; omega
    rw [h4 _ hlt, flat_at enc hc l k hk j hj]
end
end Go.Proofs.YtfbaleomhghjeaaGreat
end
section
namespace Go.Proofs.YtfbaleomhghjeaaGreat
open Go.RowKit Go.Shelf

structure A3 where
  k : Nat
  q : Int
  s : List UInt8
  hk : k < 256
  hq : Z64 q
  hs : s.length ≤ 9223372036854775807
def a3c (x : A3) : List Value := [.int .u8 (x.k : Nat), .int .i64 x.q, .string (bs x.s)]
theorem a3c_len (x : A3) : (a3c x).length = 3 := rfl
def A3L (w : World) (v : Value) (l : List A3) : Prop := Sl w 3 v l.length (flat a3c l)
section
variable {w w' : World} {v : Value} {l : List A3}
theorem A3L.keepF (h : A3L w v l) (hf : Frm (fun _ => False) w w') : A3L w' v l := Sl.keepF h hf
theorem A3L.keep {X : Nat → Prop} (h : A3L w v l) (hf : Frm X w w') (hn : ∀ g, g < w.heap.size → X g → False) : A3L w' v l := Sl.keepF h (hf.mono fun k hk hx => hn k hk hx)
theorem A3L.slice (h : A3L w v l) : ∃ a cap, v = .slice a l.length cap ∧ l.length ≤ cap ∧ cap ≤ maxLen := Sl.slice h
theorem A3L.elem {a : Option Addr} {cap : Nat} (h : A3L w (.slice a l.length cap) l) (k : Nat) (hk : k < l.length) : ∃ g off, a = some ⟨g, off, none⟩ ∧ g < w.heap.size ∧ w.cell? ⟨g, off + k * 3, none⟩ = some (.int .u8 (l[k].k : Nat)) ∧ w.cell? ⟨g, off + k * 3 + 1, none⟩ = some (.int .i64 l[k].q) ∧ w.cell? ⟨g, off + k * 3 + 2, none⟩ = some (.string (bs l[k].s)) := by
  obtain ⟨g, off, rfl, h0, hc⟩ := Sl.elem a3c a3c_len h k hk (by omega)
  exact ⟨g, off, rfl, h0, hc 0 (by omega), by rw [Nat.add_assoc]; exact hc 1 (by omega), by rw [Nat.add_assoc]; exact hc 2 (by omega)⟩
end
end Go.Proofs.YtfbaleomhghjeaaGreat
end
section
namespace Go.Proofs.YtfbaleomhghjeaaGreat
open Go.RowKit Go.Shelf

theorem LV.act_live {L : LV} (D' : DV) (h : L.down = false) (hne : (L.acts : Int) ≠ L.cut) : L.act D' = { L.count with D := D' } := by
  unfold LV.act
  rw [h, if_neg Bool.false_ne_true, if_pos hne]
theorem LV.act_cut {L : LV} (D' : DV) (h : L.down = false) (he : (L.acts : Int) = L.cut) : L.act D' = if L.odd then ({ L.count with D := D' } : LV).fall else L.count.fall := by
  unfold LV.act
  rw [h, if_neg Bool.false_ne_true, if_neg (not_not_intro he)]
theorem LV.act_over {L : LV} (D' : DV) (h : L.down = true) : L.act D' = L := by
  unfold LV.act
  rw [if_pos h]
def LV.writeAct (L : LV) (q : Int) (s : List UInt8) : LV := L.act (L.D.writeTo q s)
theorem writeTo_n (D : DV) (q : Int) (s : List UInt8) : (D.writeTo q s).n = D.n := by
  unfold DV.writeTo
  split <;> rfl
theorem cut2 (c : Int) : ((((LV.new (DV.new 256) 1 [c]).writeAct 5 [97, 98]).writeAct 6 [99, 100]).down = true) ∧ (((LV.new (DV.new 256) 1 [c]).writeAct 5 [97, 98]).writeAct 6 [99, 100]).acts = 2 := by
  have e1 : (LV.new (DV.new 256) 1 [c]).writeAct 5 [97, 98] = ⟨(DV.new 256).writeTo 5 [97, 98], 1, [c], 1, false, fun _ => True⟩ := rfl
  rw [e1]
  unfold LV.writeAct
  rw [LV.act_cut _ rfl rfl]
  split <;> exact ⟨rfl, rfl⟩
theorem Frm.toNewX {w w1 w2 : World} {l f x : Nat} (g1 : Frm (fun _ => False) w w1) (g2 : Frm (LnX l f x) w1 w2) (h : w.heap.size ≤ l ∧ w.heap.size ≤ f ∧ w.heap.size ≤ x) : Frm (fun _ => False) w w2 := g1.next g2 fun j hj e => by unfold LnX at e; omega
theorem new256 (w : World) : Calls Tryz.prog 10 #[.int .i64 256] w fun e w' => ∃ v, e = .returned v ∧ NewDev (DV.new 256) w v w' := (new_any 256 w).mono fun e w' h => by
  unfold NewTo at h
  rw [if_pos (by decide)] at h
  exact h
end Go.Proofs.YtfbaleomhghjeaaGreat
end
section
namespace Go.Proofs.YtfbaleomhghjeaaGreat
/-- The fresh blocks, with their bytes. -/
def FLs (D : DV) : List (Nat × List UInt8) := D.fresh.map fun k => (k, (D.X k).getD [])
/-- The firm bytes of all blocks. -/
def FRs (D : DV) : List (List UInt8) := (List.range D.n).map D.F
end Go.Proofs.YtfbaleomhghjeaaGreat
end
