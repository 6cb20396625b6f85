/- Plain words on slices of structs: elements of c cells each, one behind the other. Of no program. No condition. -/
import Derived.Test.YtddjkbpgaenpgaaGreatRow
import Derived.Test.YtddjkbpgaenpgaaGreatDvD
import Derived.Deep.MidRow
import Derived.Test.YtddjkbpgaenpgaaGreatLnD
import Derived.Test.YtddjkbpgaenpgaaGreatDvM
import Derived.Test.YtddjkbpgaenpgaaGreatRows
import Derived.WalkKit
import Derived.ProofKit
import Derived.OpenShut
import Derived.ShutString
import Derived.Carry
import Derived.Deep.Slices
import Derived.Deep.Fields
import Derived.Test.YtddjkbpgaenpgaaGreatDvJ
import Derived.Laws.MakeOwn
import Derived.BigQuiet
section
namespace Go.Proofs.YtddjkbpgaenpgaaGreat
open Go.RowKit

section
variable {α : Type} (enc : α → List Value) {c : Nat}
/-- The cells of some elements. -/
def flat (l : List α) : List Value := l.flatMap enc
theorem flat_at (hc : ∀ x, (enc x).length = c) : ∀ (l : List α) (k : Nat) (h : k < l.length) (j : Nat), j < c → (flat enc l)[k * c + j]? = (enc l[k])[j]? := by
  intro l
  induction l with
  | nil => intro k h; simp at h
  | cons x l ih =>
    intro k h j hj
    have e : flat enc (x :: l) = enc x ++ flat enc l := rfl
    rw [e]
    cases k with
    | zero =>
      rw [Nat.zero_mul, Nat.zero_add, List.getElem?_append_left (by rw [hc]; exact hj)]
      rfl
    | succ k =>
      have h2 : k < l.length := by simpa using h
      rw [List.getElem?_append_right (by rw [hc, Nat.add_mul]; omega), hc, show (k + 1) * c + j - c = k * c + j from by rw [Nat.add_mul]; omega, ih k h2 j hj]
      rfl
theorem flat_take (hc : ∀ x, (enc x).length = c) : ∀ (l : List α) (k : Nat), (flat enc l).take (k * c) = flat enc (l.take k) := by
  intro l
  induction l with
  | nil => intro k; simp [flat]
  | cons x l ih =>
    intro k
    cases k with
    | zero => simp [flat]
    | succ k =>
      have e : flat enc (x :: l) = enc x ++ flat enc l := rfl
      have e2 : flat enc ((x :: l).take (k + 1)) = enc x ++ flat enc (l.take k) := rfl
      rw [e, e2, List.take_append, hc, show (k + 1) * c - c = k * c from by rw [Nat.add_mul]; omega, ih k, List.take_of_length_le (by rw [hc, Nat.add_mul]; omega)]
theorem flat_drop (hc : ∀ x, (enc x).length = c) : ∀ (l : List α) (k : Nat), (flat enc l).drop (k * c) = flat enc (l.drop k) := by
  intro l
  induction l with
  | nil => intro k; simp [flat]
  | cons x l ih =>
    intro k
    cases k with
    | zero => simp [flat]
    | succ k =>
      have e : flat enc (x :: l) = enc x ++ flat enc l := rfl
      have e2 : flat enc ((x :: l).drop (k + 1)) = flat enc (l.drop k) := rfl
      rw [e, e2, List.drop_append, hc, show (k + 1) * c - c = k * c from by rw [Nat.add_mul]; omega, ih k, List.drop_of_length_le (by rw [hc, Nat.add_mul]; omega)]
      rfl

/-- The cells of one element of a slice that is only read. -/
theorem Sl.elem {w : World} {a : Option Addr} {cap : Nat} {l : List α} (hc : ∀ x, (enc x).length = c) (h : Sl w c (.slice a l.length cap) l.length (flat enc l)) (k : Nat) (hk : k < l.length) (h0 : 0 < c) :
    ∃ g off, a = some ⟨g, off, none⟩ ∧ g < w.heap.size ∧ ∀ j, j < c → w.cell? ⟨g, off + (k * c + j), none⟩ = (enc l[k])[j]? := by
  have hlt : ∀ j, j < c → k * c + j < l.length * c := fun j hj => by
    have := Nat.mul_le_mul_right c (show k + 1 ≤ l.length from hk)
    rw [Nat.add_mul] at this; omega
  obtain ⟨g, off, rfl, hg, _⟩ := h.at (k * c + 0) (hlt 0 h0)
  refine ⟨g, off, rfl, hg, fun j hj => ?_⟩
  obtain ⟨g', off', e, _, h2⟩ := h.at (k * c + j) (hlt j hj)
  cases e
  rw [h2, flat_at enc hc l k hk j hj]
/-- Of a slice of the call's own. -/
theorem Row.elem {w : World} {v : Value} {l : List α} (hc : ∀ x, (enc x).length = c) (h : Row w c v l.length (flat enc l)) (k : Nat) (hk : k < l.length) :
    ∃ g cap, v = .slice (some ⟨g, 0, none⟩) l.length cap ∧ l.length ≤ cap ∧ cap ≤ maxLen ∧ ∀ j, j < c → w.cell? ⟨g, k * c + j, none⟩ = (enc l[k])[j]? := by
  rcases h.2 with ⟨_, e⟩ | ⟨g, cap, rfl, h1, h2, h3, h4, h5⟩
  · omega
  · refine ⟨g, cap, rfl, h1, h2, fun j hj => ?_⟩
    have hlt : k * c + j < l.length * c := by
      have := Nat.mul_le_mul_right c (show k + 1 ≤ l.length from hk)
      rw [Nat.add_mul] at this; omega
    rw [h4 _ hlt, flat_at enc hc l k hk j hj]
end
end Go.Proofs.YtddjkbpgaenpgaaGreat
end
section
namespace Go.Proofs.YtddjkbpgaenpgaaGreat
open Go.RowKit Go.Shelf

structure A3 where
  k : Nat
  q : Int
  s : List UInt8
  hk : k < 256
  hq : Z64 q
  hs : s.length ≤ 9223372036854775807
def a3c (x : A3) : List Value := [.int .u8 (x.k : Nat), .int .i64 x.q, .string (bs x.s)]
theorem a3c_len (x : A3) : (a3c x).length = 3 := rfl
def A3L (w : World) (v : Value) (l : List A3) : Prop := Sl w 3 v l.length (flat a3c l)
section
variable {w w' : World} {v : Value} {l : List A3}
theorem A3L.keepF (h : A3L w v l) (hf : Frm (fun _ => False) w w') : A3L w' v l := Sl.keepF h hf
theorem A3L.keep {X : Nat → Prop} (h : A3L w v l) (hf : Frm X w w') (hn : ∀ g, g < w.heap.size → X g → False) : A3L w' v l := Sl.keepF h (hf.mono fun k hk hx => hn k hk hx)
theorem A3L.slice (h : A3L w v l) : ∃ a cap, v = .slice a l.length cap ∧ l.length ≤ cap ∧ cap ≤ maxLen := Sl.slice h
theorem A3L.elem {a : Option Addr} {cap : Nat} (h : A3L w (.slice a l.length cap) l) (k : Nat) (hk : k < l.length) : ∃ g off, a = some ⟨g, off, none⟩ ∧ g < w.heap.size ∧ w.cell? ⟨g, off + k * 3, none⟩ = some (.int .u8 (l[k].k : Nat)) ∧ w.cell? ⟨g, off + k * 3 + 1, none⟩ = some (.int .i64 l[k].q) ∧ w.cell? ⟨g, off + k * 3 + 2, none⟩ = some (.string (bs l[k].s)) := by
  obtain ⟨g, off, rfl, h0, hc⟩ := Sl.elem a3c a3c_len h k hk (by omega)
  exact ⟨g, off, rfl, h0, hc 0 (by omega), by rw [Nat.add_assoc]; exact hc 1 (by omega), by rw [Nat.add_assoc]; exact hc 2 (by omega)⟩
end
end Go.Proofs.YtddjkbpgaenpgaaGreat
end
section
namespace Go.Proofs.YtddjkbpgaenpgaaGreat
open Go.RowKit Go.Shelf

theorem LV.act_live {L : LV} (D' : DV) (h : L.down = false) (hne : (L.acts : Int) ≠ L.cut) : L.act D' = { L.count with D := D' } := by
  unfold LV.act
  rw [h, if_neg Bool.false_ne_true, if_pos hne]
theorem LV.act_cut {L : LV} (D' : DV) (h : L.down = false) (he : (L.acts : Int) = L.cut) : L.act D' = if L.odd then ({ L.count with D := D' } : LV).fall else L.count.fall := by
  unfold LV.act
  rw [h, if_neg Bool.false_ne_true, if_neg (not_not_intro he)]
theorem LV.act_over {L : LV} (D' : DV) (h : L.down = true) : L.act D' = L := by
  unfold LV.act
  rw [if_pos h]
def LV.writeAct (L : LV) (q : Int) (s : List UInt8) : LV := L.act (L.D.writeTo q s)
theorem writeTo_n (D : DV) (q : Int) (s : List UInt8) : (D.writeTo q s).n = D.n := by
  unfold DV.writeTo
  split <;> rfl
theorem cut2 (c : Int) : ((((LV.new (DV.new 256) 1 [c]).writeAct 5 [97, 98]).writeAct 6 [99, 100]).down = true) ∧ (((LV.new (DV.new 256) 1 [c]).writeAct 5 [97, 98]).writeAct 6 [99, 100]).acts = 2 := by
  have e1 : (LV.new (DV.new 256) 1 [c]).writeAct 5 [97, 98] = ⟨(DV.new 256).writeTo 5 [97, 98], 1, [c], 1, false, fun _ => True⟩ := rfl
  rw [e1]
  unfold LV.writeAct
  rw [LV.act_cut _ rfl rfl]
  split <;> exact ⟨rfl, rfl⟩
theorem Frm.toNewX {w w1 w2 : World} {l f x : Nat} (g1 : Frm (fun _ => False) w w1) (g2 : Frm (LnX l f x) w1 w2) (h : w.heap.size ≤ l ∧ w.heap.size ≤ f ∧ w.heap.size ≤ x) : Frm (fun _ => False) w w2 := g1.next g2 fun j hj e => by unfold LnX at e; omega
end Go.Proofs.YtddjkbpgaenpgaaGreat
end
section
namespace Go.Proofs.YtddjkbpgaenpgaaGreat
namespace DV
theorem read_none {D : DV} {k : Nat} (h : D.X k = none) : D.read k = D.F k := by
  unfold read
  rw [h]
  rfl
end DV
end Go.Proofs.YtddjkbpgaenpgaaGreat
end
section
namespace Go.Proofs.YtddjkbpgaenpgaaGreat
/-- The fresh blocks, with their bytes. -/
def FLs (D : DV) : List (Nat × List UInt8) := D.fresh.map fun k => (k, (D.X k).getD [])
/-- The firm bytes of all blocks. -/
def FRs (D : DV) : List (List UInt8) := (List.range D.n).map D.F
end Go.Proofs.YtddjkbpgaenpgaaGreat
end
section
namespace Go.Proofs.YtddjkbpgaenpgaaGreat
open Go.ChangeShapes Go.WideShapes Go.ChangeAt Go.RowKit

theorem trodAll_keep {H : Type} {enc : TypeId × Value → H} {P : Program} (hl : laidOutB P = true) {W W' : World} (hb : Below W.heap.size W W') :
    ∀ (ts : List TypeId) (vs : List Value) (ds : List (DataW H)) (ps : List MemPlace), ts.all (fun t => P.readableRec t && decide (t < P.types.size)) = true →
      DataW.TrodAll enc P W 0 (fun _ => true) true ts vs ds ps → (∀ x ∈ ps, x.block < W.heap.size) → DataW.TrodAll enc P W' 0 (fun b => decide (b < W.heap.size)) true ts vs ds ps := by
  intro ts
  induction ts with
  | nil => intro vs ds ps _ h _; cases vs <;> cases ds <;> exact h
  | cons t ts ih =>
    intro vs ds ps hr h hlt
    cases vs with
    | nil => exact h.elim
    | cons v vs =>
      cases ds with
      | nil => exact h.elim
      | cons d ds =>
        obtain ⟨p, q, h1, h2, rfl⟩ := h
        rw [List.all_cons, Bool.and_eq_true, Bool.and_eq_true] at hr
        exact ⟨p, q, Below.trod hl hr.1.1 (of_decide_eq_true hr.1.2) h1 hb (fun x hx => hlt x (List.mem_append_left _ hx)), ih vs ds q hr.2 h2 (fun x hx => hlt x (List.mem_append_right _ hx)), rfl⟩

theorem lawPost {H : Type} {enc : TypeId × Value → H} {P : Program} {f : Func} {s : ChangeSpec} {apart fresh handsOn : Bool} {W W' : World} {args : Array Value} {ds gs : List (DataW H)} {before : List MemPlace} {tb : TypeId}
    (hl : laidOutB P = true) (hr : f.params.toList.all (fun t => P.readableRec t && decide (t < P.types.size)) = true) (hv : s.vars = []) (hrt : f.resultTypes = #[tb]) (htb : P.underlying tb = some .bool)
    (hW : DataW.Whole enc P f.params.toList s.vars apart W args.toList ds gs before) (hfn : s.fn H (ds ++ gs) = { results := [.lit (.bool true)], args := ds }) (hb : Below W.heap.size W W') :
    s.post enc P f apart fresh handsOn false W args (.bool true) W' := by
  have hW0 := hW
  obtain ⟨p, q, h1, h2, h3, h4, h5⟩ := hW0
  refine ⟨ds, gs, before, [], p, [], hW, ?_, ?_, ?_, ?_, fun h => by cases h⟩
  · rw [hfn, hrt]
    exact trodAll_cons_mk (shut_bool htb _) trodAll_mk0
  · rw [hfn]
    refine trodAll_keep hl hb _ _ _ _ hr h1 fun x hx => ?_
    have hlt := hW.lt x (by rw [h3]; exact List.mem_append_left _ hx)
    simpa using hlt
  · rw [hfn, hv]
    exact rfl
  · exact hb.frame _
end Go.Proofs.YtddjkbpgaenpgaaGreat
end
section
namespace Go.Proofs.YtddjkbpgaenpgaaGreat
open Go.ChangeShapes Go.WideShapes Go.ChangeAt Go.RowKit Go.Deep
section
variable {H : Type} {enc : TypeId × Value → H} {P : Program} {w : World} {base : Nat} {spare : Nat → Bool} {held : Bool}
theorem spot_of_cell {a : Addr} {v : Value} (h : w.cell? a = some v) : a.spot = none := by
  unfold World.cell? at h
  split at h
  · split at h
    · cases h
    · rename_i hs; simpa using hs
  · cases h
/-- What a row's first cell tells of its address. -/
theorem addr_of_cell {a : Addr} {v : Value} (h : w.cell? (a.add 0) = some v) : ∃ b off, a = ⟨b, off, none⟩ ∧ b < w.heap.size := by
  have h0 : a.add 0 = a := by simp [Addr.add]
  rw [h0] at h
  obtain ⟨b, off, sp⟩ := a
  have hs : sp = none := spot_of_cell h
  subst hs
  exact ⟨b, off, rfl, World.block_lt_of_cell? w _ h⟩
end
theorem listOf {α : Type} {p : Nat → α → Prop} : ∀ n, (∀ i, i < n → ∃ x, p i x) → ∃ l : List α, l.length = n ∧ ∀ i (h : i < l.length), p i l[i] := by
  intro n
  induction n with
  | zero => intro _; exact ⟨[], rfl, fun i h => by simp at h⟩
  | succ n ih =>
    intro h
    obtain ⟨l, hl, hp⟩ := ih fun i hi => h i (by omega)
    obtain ⟨x, hx⟩ := h n (by omega)
    refine ⟨l ++ [x], by simp [hl], fun i hi => ?_⟩
    by_cases hin : i < l.length
    · rw [List.getElem_append_left hin]; exact hp i hin
    · have : i = n := by simp at hi; omega
      subst this
      rw [List.getElem_append_right (by omega)]
      simpa [hl] using hx
end Go.Proofs.YtddjkbpgaenpgaaGreat
end
section
namespace Go.Proofs.YtddjkbpgaenpgaaGreat
open Go.ChangeShapes Go.WideShapes Go.ChangeAt Go.RowKit Go.Deep
/-- Texts, as cells. -/
def strs (l : List (List UInt8)) : List Value := l.map fun s => Value.string (bs s)
theorem strs_length (l : List (List UInt8)) : (strs l).length = l.length := by simp [strs]
theorem strs_append (a b : List (List UInt8)) : strs (a ++ b) = strs a ++ strs b := by simp [strs]
theorem strs_take (l : List (List UInt8)) (k : Nat) : (strs l).take k = strs (l.take k) := by simp [strs, List.map_take]
theorem strs_drop (l : List (List UInt8)) (k : Nat) : (strs l).drop k = strs (l.drop k) := by simp [strs, List.map_drop]
theorem strs_get (l : List (List UInt8)) (k : Nat) (h : k < l.length) : (strs l)[k]? = some (.string (bs l[k])) := by simp [strs, h]
theorem strs_one (l : List (List UInt8)) : ∀ u ∈ strs l, u.oneCell' = true := fun u hu => by
  obtain ⟨_, _, rfl⟩ := List.mem_map.1 hu
  rfl
/-- A slice of texts, only read. -/
def Strs (w : World) (v : Value) (l : List (List UInt8)) : Prop := Sl w 1 v l.length (strs l)
/-- A slice of texts that the call holds by itself. -/
def OwnS (w : World) (v : Value) (l : List (List UInt8)) : Prop := Row w 1 v l.length (strs l)
section
variable {w w' : World} {v : Value} {l : List (List UInt8)}
theorem OwnS.reads (h : OwnS w v l) : Strs w v l := Sl.ofRow h
theorem OwnS.keep {X : Nat → Prop} (h : OwnS w v l) (hf : Frm X w w') (hn : ∀ g, v.ownBlock = some g → ¬ X g) : OwnS w' v l := Row.keep h hf hn
theorem OwnS.nil_ (w : World) : OwnS w (.slice none 0 0) [] := Row.nil_ w 1
theorem Strs.keepF (h : Strs w v l) (hf : Frm (fun _ => False) w w') : Strs w' v l := Sl.keepF h hf
theorem Strs.slice (h : Strs w v l) : ∃ a cap, v = .slice a l.length cap ∧ l.length ≤ cap ∧ cap ≤ maxLen := Sl.slice h
theorem Strs.at {a : Option Addr} {n cap : Nat} (h : Strs w (.slice a n cap) l) (k : Nat) (hk : k < l.length) : ∃ g off, a = some ⟨g, off, none⟩ ∧ g < w.heap.size ∧ w.cell? ⟨g, off + k, none⟩ = some (.string (bs l[k])) := by
  obtain ⟨a', cap', e, _⟩ := Sl.slice h
  cases e
  obtain ⟨g, off, e1, e2, e3⟩ := Sl.at h k (by omega)
  exact ⟨g, off, e1, e2, by rw [e3, strs_get l k hk]⟩
/-- The first k of them. -/
theorem Strs.ahead {a : Option Addr} {n cap : Nat} (h : Strs w (.slice a n cap) l) (k : Nat) (hk : k ≤ n) : Strs w (.slice a k cap) (l.take k) := by
  obtain ⟨a', cap', e, hc, _⟩ := Sl.slice h
  cases e
  have h2 := Sl.take h k cap hk (by omega) (Nat.le_refl _)
  rw [Nat.mul_one, strs_take] at h2
  have e : (l.take k).length = k := by simp; omega
  unfold Strs
  rw [e]; exact h2
/-- What stands behind the first k of them. -/
theorem Strs.behind {a : Option Addr} {n cap : Nat} (h : Strs w (.slice a n cap) l) (k : Nat) (hk : k ≤ n) : Strs w (.slice (if cap = k then a else a.map (·.add k)) (n - k) (cap - k)) (l.drop k) := by
  obtain ⟨a', cap', e, hc, _⟩ := Sl.slice h
  cases e
  have h2 := Sl.drop h k hk
  rw [Nat.mul_one, strs_drop] at h2
  have e : (l.drop k).length = l.length - k := by simp
  unfold Strs
  rw [e]; exact h2
theorem Strs.none_ (w : World) : Strs w (.slice none 0 0) [] := Sl.nil_ w 1 none 0 (by decide)
end
/-- A slice of texts that came in. -/
theorem openStrs {H : Type} {enc : TypeId × Value → H} {P : Program} {w : World} {base : Nat} {spare : Nat → Bool} {held : Bool} {t e : TypeId} {v : Value} {d : DataW H} {p : List MemPlace} (ht : P.underlying t = some (.slice e)) (he : P.underlying e = some .string) (hC : P.cellsOf e = 1)
    (h : DataW.Trod enc P w base spare held t v d p) (hv : ∃ a n c, v = .slice a n c) : ∃ l, Strs w v l ∧ ∀ s ∈ l, s.length ≤ 9223372036854775807 := by
  obtain ⟨fuel, hf⟩ := h
  obtain ⟨a, n, c, rfl⟩ := hv
  rcases open_slice ht hf with ⟨h0, _⟩ | ⟨a', len, cap, m, n', D, Pl, hcs, _, hl, hm, hmm, _, hi⟩
  · simp [Value.cells] at h0
    obtain ⟨rfl, rfl, rfl⟩ := h0
    exact ⟨[], Strs.none_ w, by simp⟩
  · simp [Value.cells] at hcs
    obtain ⟨rfl, rfl, rfl⟩ := hcs
    obtain ⟨L, hL, hp⟩ := listOf (p := fun i (s : List UInt8) => ∃ b off, a' = ⟨b, off, none⟩ ∧ b < w.heap.size ∧ w.cell? ⟨b, off + i, none⟩ = some (.string (bs s)) ∧ s.length ≤ 9223372036854775807) n fun i hin => by
      have h00 : 0 < m := by rw [hmm]; split <;> omega
      obtain ⟨row0, hrow0, htrod0⟩ := hi 0 h00
      obtain ⟨_, _, hcell0⟩ := World.cells?_some hrow0
      have hc0 := hcell0 0 (by rw [hC]; omega)
      have him : i < m := by rw [hmm]; split <;> omega
      obtain ⟨row, hrow, htrod⟩ := hi i him
      obtain ⟨_, hlen, hcell⟩ := World.cells?_some hrow
      have hc := hcell 0 (by rw [hC]; omega)
      obtain ⟨s, e0, _, ws⟩ := DataW.trod_string he htrod
      obtain ⟨s0, e00, _, _⟩ := DataW.trod_string he htrod0
      rw [e00] at hc0
      obtain ⟨b, off, rfl, hb⟩ := addr_of_cell (a := a') (by simpa [Addr.add] using hc0)
      rw [e0, hC] at hc
      have hadd : ∀ (o j : Nat), (⟨b, o, none⟩ : Addr).add j = ⟨b, o + j, none⟩ := fun o j => by unfold Addr.add; split <;> simp_all
      rw [hadd, hadd, Nat.mul_one, Nat.add_zero] at hc
      refine ⟨s.data.toList, b, off, rfl, hb, by rw [bs_data, hc]; rfl, ?_⟩
      unfold maxLen at ws
      have : s.data.toList.length = s.size := by simp
      omega
    subst hL
    refine ⟨L, ⟨by simp [strs], some a', c, rfl, hl, hm, ?_⟩, fun s hs => ?_⟩
    · rcases Nat.eq_zero_or_pos L.length with h0 | h0
      · exact .inl h0
      · obtain ⟨b, off, rfl, hb, _⟩ := hp 0 h0
        refine .inr ⟨b, off, rfl, hb, fun j hj => ?_⟩
        have hj2 : j < L.length := by omega
        obtain ⟨b', off', e, _, hc, _⟩ := hp j hj2
        cases e
        rw [hc, strs_get L j hj2]
    · obtain ⟨j, hj, rfl⟩ := List.getElem_of_mem hs
      obtain ⟨_, _, _, _, _, hl2⟩ := hp j hj
      exact hl2
end Go.Proofs.YtddjkbpgaenpgaaGreat
end
section
namespace Go.Proofs.YtddjkbpgaenpgaaGreat
open Go.RowKit Go.Shelf

def frc (p : Nat × List UInt8) : List Value := [.int .i64 (p.1 : Nat), .string (bs p.2)]
theorem frc_len (p : Nat × List UInt8) : (frc p).length = 2 := rfl
def FrL (w : World) (v : Value) (l : List (Nat × List UInt8)) : Prop := Sl w 2 v l.length (flat frc l)
def OwnF (w : World) (v : Value) (l : List (Nat × List UInt8)) : Prop := Row w 2 v l.length (flat frc l)
theorem FrL.slice {w : World} {v : Value} {l : List (Nat × List UInt8)} (h : FrL w v l) : ∃ a cap, v = .slice a l.length cap ∧ l.length ≤ cap ∧ cap ≤ maxLen := Sl.slice h
theorem FrL.elem {w : World} {a : Option Addr} {cap : Nat} {l : List (Nat × List UInt8)} (h : FrL w (.slice a l.length cap) l) (k : Nat) (hk : k < l.length) : ∃ g off, a = some ⟨g, off, none⟩ ∧ g < w.heap.size ∧ w.cell? ⟨g, off + k * 2, none⟩ = some (.int .i64 (l[k].1 : Nat)) ∧ w.cell? ⟨g, off + k * 2 + 1, none⟩ = some (.string (bs l[k].2)) := by
  obtain ⟨g, off, rfl, h0, hc⟩ := Sl.elem frc frc_len h k hk (by omega)
  exact ⟨g, off, rfl, h0, hc 0 (by omega), by rw [Nat.add_assoc]; exact hc 1 (by omega)⟩
/-- The document's device at block r: its texts A, its list B; where it lies is among fp. -/
structure RefC (w : World) (r : Nat) (A : List (List UInt8)) (B : List (Nat × List UInt8)) (fp : Nat → Prop) (va vb : Value) : Prop where
  blk : Blk w r 98 #[va, vb]
  firm : OwnS w va A
  list : OwnF w vb B
  fr : fp r
  fa : ∀ g, va.ownBlock = some g → fp g ∧ g ≠ r
  fb : ∀ g, vb.ownBlock = some g → fp g ∧ g ≠ r ∧ va.ownBlock ≠ some g
  lt : ∀ k, fp k → k < w.heap.size
def RefM (w : World) (r : Nat) (D : DV) (fp : Nat → Prop) : Prop := ∃ va vb, RefC w r (FRs D) (FLs D) fp va vb
section
variable {w w' : World} {r : Nat} {A : List (List UInt8)} {B : List (Nat × List UInt8)} {fp : Nat → Prop} {va vb : Value} {D : DV}
theorem RefC.keep {X : Nat → Prop} (h : RefC w r A B fp va vb) (hf : Frm X w w') (hn : ∀ k, fp k → ¬ X k) : RefC w' r A B fp va vb :=
  ⟨h.blk.keep hf (hn r h.fr), h.firm.keep hf (fun g hg => hn g (h.fa g hg).1), Row.keep h.list hf (fun g hg => hn g (h.fb g hg).1), h.fr, h.fa, h.fb, fun k hk => Nat.lt_of_lt_of_le (h.lt k hk) hf.size⟩
theorem RefM.keep {X : Nat → Prop} (h : RefM w r D fp) (hf : Frm X w w') (hn : ∀ k, fp k → ¬ X k) : RefM w' r D fp := by
  obtain ⟨va, vb, h⟩ := h
  exact ⟨va, vb, h.keep hf hn⟩
theorem RefM.keepF (h : RefM w r D fp) (hf : Frm (fun _ => False) w w') : RefM w' r D fp := h.keep hf fun _ _ h => h
theorem RefM.lt (h : RefM w r D fp) : ∀ k, fp k → k < w.heap.size := by
  obtain ⟨va, vb, h⟩ := h
  exact h.lt
end
end Go.Proofs.YtddjkbpgaenpgaaGreat
end
