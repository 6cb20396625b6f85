/- What New makes of a device: a line; of none: nil. No condition. -/
import Derived.Test.YtddjkbpgaenpgaaGreatLnC
import Derived.Test.YtddjkbpgaenpgaaGreatDvJ
import Derived.Laws.MakeOwn
import Derived.Test.YtddjkbpgaenpgaaGreatRow
import Derived.Test.YtddjkbpgaenpgaaGreatDvD
import Derived.Deep.MidRow
import Derived.Test.YtddjkbpgaenpgaaGreatDvM
section
namespace Go.Proofs.YtddjkbpgaenpgaaGreat
open Go.RowKit

theorem zinfo_parts {α β γ : Type} {o : Option TypeInfo} {f : TypeInfo → α} {g : TypeInfo → β} {h : TypeInfo → γ} {a : α} {b : β} {c : γ} (e : o.map (fun i => (f i, g i, h i)) = some (a, b, c)) : ∃ i, o = some i ∧ f i = a ∧ g i = b ∧ h i = c := by
  cases o with
  | none => cases e
  | some i => simp at e; exact ⟨i, rfl, e.1, e.2.1, e.2.2⟩
theorem infoZ : (Tryz.prog.info? 3).map (fun i => (i.zero, i.size, i.bytes)) = some (some (.int .i64 0), 1, 8) := by kernel_rfl
theorem zcs_append (a b : List Int) : zcs (a ++ b) = zcs a ++ zcs b := List.map_append
theorem zcs_one (l : List Int) : ∀ u ∈ zcs l, u.oneCell' = true := fun u hu => by
  unfold zcs at hu
  obtain ⟨z, _, rfl⟩ := List.mem_map.1 hu
  rfl
theorem append_zs (w : World) (v x : Value) (l m : List Int) (h : OwnZ w v l) (hs : Zs w x m) (hb : l.length + m.length ≤ 1000000) :
    ∃ v' w', (Builtin.append_ #[23, 23] 23 #[v, x]).run Tryz.prog w = .ok v' w' ∧ OwnZ w' v' (l ++ m) ∧ w.grownBy w' v.ownBlock ∧ (∀ g, v'.ownBlock = some g → v.ownBlock = some g ∨ w.heap.size ≤ g) := by
  obtain ⟨i0, hi, hz0, hz1, hz2⟩ := zinfo_parts infoZ
  obtain ⟨v', w', h1, h2, h3, h4⟩ := run_append_row w 23 23 23 3 i0 (.int .i64 0) 1 8 Tryz.underlying23 hi hz0 hz1 hz2 rfl h x m.length (zcs m)
    (Sl.src hs Tryz.underlying23 (zcs_one m)) (by unfold maxLen; omega) (by omega)
  exact ⟨v', w', h1, by unfold OwnZ; rw [List.length_append, zcs_append]; exact h2, h3, h4⟩
theorem OwnZ.empty (w : World) : OwnZ (w.alloc (.cells #[] 3)) (.slice (some ⟨w.heap.size, 0, none⟩) 0 0) [] :=
  Row.made w 3 1 0 0 [] #[] rfl (Nat.le_refl _) (by decide) rfl rfl
theorem nilZ (w : World) (a : Option Addr) (n c n' c' : Nat) : (binOp .eql 23 (.slice a n c) (.slice none n' c')).run Tryz.prog w = .ok (.bool a.isNone) w := Lib.run_eql_slice_nil w _ _ a n c n' c' Tryz.underlying23
set_option maxRecDepth 100000 in
set_option maxHeartbeats 1000000 in
theorem zclone_any (v : Value) (l : List Int) (w : World) (h : Zs w v l) (hb : l.length ≤ 1000000) : Calls Tryz.prog 53 #[v] w fun e w' => ∃ v', e = .returned v' ∧ OwnZ w' v' l ∧ Frm (fun _ => False) w w' ∧ ∀ g, v'.ownBlock = some g → w.heap.size ≤ g := by
  obtain ⟨a, cap, rfl, hc1, hc2⟩ := h.slice
  have hq := nilZ
  cases a with
  | none =>
    have hl : l = [] := by
      rcases Nat.eq_zero_or_pos l.length with h0 | h0
      · exact List.eq_nil_of_length_eq_zero h0
      · obtain ⟨_, _, e, _⟩ := Zs.at h 0 h0; cases e
    have Hl := Lib.hid hl
    clear hl
    go_enter Tryz.func53, Tryz.ntmps53
    go_wp2
    go_ret
    exact ⟨.slice none 0 0, rfl, by rw [Hl.out]; exact Row.nil_ _ _, Frm.refl _ _, (fun g hg => by cases hg)⟩
  | some ad =>
    have h1 := h.keepF ((Frm.refl _ w).alloc (.cells #[] 3))
    obtain ⟨v', w', hrun, hrow, hg, ho⟩ := append_zs _ _ _ [] l (OwnZ.empty w) h1 (by simp; omega)
    have Hrun := Lib.hid hrun
    clear hrun
    go_enter Tryz.func53, Tryz.ntmps53
    go_wp2_with (at_builtin; refine Lib.wpList_append_run _ rfl _ _ _ _ rfl _ _ rfl rfl _ _ Hrun.out ?_)
    go_ret
    refine ⟨v', rfl, hrow, ((Frm.refl _ w).alloc _).grown hg (fun k hk e => by have e2 : w.heap.size = k := Option.some.inj e; omega), fun g hg => ?_⟩
    rcases ho g hg with e | e
    · cases e; exact Nat.le_refl _
    · simp at e; omega
theorem ownBlock_blkOf {w : World} {v : Value} {l : List Int} (h : OwnZ w v l) : ∀ g, blkOf v = some g → v.ownBlock = some g := by
  intro g hg
  rcases h.2 with ⟨rfl, _⟩ | ⟨g', cap, rfl, _⟩
  · cases hg
  · exact hg
/-- A new line at v. -/
def NewLn (b f x : Nat) (L : LV) (w : World) (v : Value) (w' : World) : Prop := ∃ l, v = .pointer (some ⟨l, 0, none⟩) ∧ LnM w' l b f x L ∧ w.heap.size ≤ l ∧ Frm (fun _ => False) w w'
set_option maxRecDepth 100000 in
set_option maxHeartbeats 2000000 in
theorem lnew_any (b f x : Nat) (D : DV) (q : Int) (v : Value) (cs : List Int) (w : World) (h : DevM w b f x D) (hq : Z64 q) (hv : Zs w v cs) (hz : ∀ z ∈ cs, Z64 z) (hcl : cs.length ≤ 1000000) (P : Nat → Prop := fun _ => True) (hP : ∀ g, w.heap.size ≤ g → P g := by intros; trivial) :
    Calls Tryz.prog 15 #[.pointer (some ⟨b, 0, none⟩), .int .i64 q, v] w fun e w' => ∃ v', e = .returned v' ∧ NewLn b f x (LV.new D q cs P) w v' w' := by
  have HB := Lib.hid (blocks_any b f x D w h)
  have hn : ((D.n : Int) == 0) = false := by rw [beq_eq_false_iff_ne]; have := h.ok.lo; omega
  have HC := Lib.hid (zclone_any v cs w hv hcl)
  have H := Lib.hid h
  have HL := Lib.hid (And.intro hcl hP)
  clear h hv hcl hP
  go_enter Tryz.func15, Tryz.ntmps15
  go_wp2_with fail
  refine HB.out.mono ?_
  rintro e w1 ⟨rfl, rfl⟩
  go_wp2_with fail
  refine HC.out.mono ?_
  rintro e w1 ⟨v', rfl, hv', g1, hg1⟩
  obtain ⟨a', cap', rfl, hc1, hc2⟩ := hv'.zs.slice
  have H1 := Lib.hid (And.intro hv' (And.intro g1 hg1))
  have hzz := Lib.hid (And.intro hq hz)
  clear hv' g1 hg1 hc1 hc2 hq hz
  go_wp2_with fail
  go_ret
  obtain ⟨hv', g1, hg1⟩ := H1.out
  have h0 := H.out.keepF g1
  have hlt := h0.lt
  have hlen := hzz.out.2
  have g2 : Frm (fun _ => False) w1 (w1.alloc (.cells #[.pointer (some ⟨w1.heap.size, 0, none⟩), .pointer (some ⟨b, 0, none⟩), .int .i64 q, .slice a' cs.length cap', .int .i64 0, .bool false] 102)) := (Frm.refl _ w1).alloc _
  refine ⟨_, rfl, w1.heap.size, rfl, ⟨_, Blk.alloc w1 102 #[.pointer (some ⟨w1.heap.size, 0, none⟩), .pointer (some ⟨b, 0, none⟩), .int .i64 q, .slice a' cs.length cap', .int .i64 0, .bool false], h0.keepF g2, by omega, by omega, by omega, fun _ => hv'.zs.keepF g2, fun _ => .inr fun g hg => ?_, ⟨hzz.out.1, hzz.out.2, HL.out.1⟩⟩, g1.size, g1.trans g2⟩
  have ho := ownBlock_blkOf hv' g hg
  have h1 := hg1 g ho
  have h2 := Row.blk hv' g ho
  have h3 := H.out.lt
  exact ⟨by omega, by omega, by omega, HL.out.2 g h1⟩
end Go.Proofs.YtddjkbpgaenpgaaGreat
end
section
namespace Go.Proofs.YtddjkbpgaenpgaaGreat
open Go.RowKit

section
variable {α : Type} (enc : α → List Value) {c : Nat}
/-- The cells of some elements. -/
def flat (l : List α) : List Value := l.flatMap enc
theorem flat_at (hc : ∀ x, (enc x).length = c) : ∀ (l : List α) (k : Nat) (h : k < l.length) (j : Nat), j < c → (flat enc l)[k * c + j]? = (enc l[k])[j]? := by
  intro l
  induction l with
  | nil => intro k h; simp at h
  | cons x l ih =>
    intro k h j hj
    have e : flat enc (x :: l) = enc x ++ flat enc l := rfl
    rw [e]
    cases k with
    | zero =>
      rw [Nat.zero_mul, Nat.zero_add, List.getElem?_append_left (by rw [hc]; exact hj)]
      rfl
    | succ k =>
      have h2 : k < l.length := by simpa using h
      rw [List.getElem?_append_right (by rw [hc, Nat.add_mul]; omega), hc, show (k + 1) * c + j - c = k * c + j from by rw [Nat.add_mul]; omega, ih k h2 j hj]
      rfl
theorem flat_take (hc : ∀ x, (enc x).length = c) : ∀ (l : List α) (k : Nat), (flat enc l).take (k * c) = flat enc (l.take k) := by
  intro l
  induction l with
  | nil => intro k; simp [flat]
  | cons x l ih =>
    intro k
    cases k with
    | zero => simp [flat]
    | succ k =>
      have e : flat enc (x :: l) = enc x ++ flat enc l := rfl
      have e2 : flat enc ((x :: l).take (k + 1)) = enc x ++ flat enc (l.take k) := rfl
      rw [e, e2, List.take_append, hc, show (k + 1) * c - c = k * c from by rw [Nat.add_mul]; omega, ih k, List.take_of_length_le (by rw [hc, Nat.add_mul]; omega)]
theorem flat_drop (hc : ∀ x, (enc x).length = c) : ∀ (l : List α) (k : Nat), (flat enc l).drop (k * c) = flat enc (l.drop k) := by
  intro l
  induction l with
  | nil => intro k; simp [flat]
  | cons x l ih =>
    intro k
    cases k with
    | zero => simp [flat]
    | succ k =>
      have e : flat enc (x :: l) = enc x ++ flat enc l := rfl
      have e2 : flat enc ((x :: l).drop (k + 1)) = flat enc (l.drop k) := rfl
      rw [e, e2, List.drop_append, hc, show (k + 1) * c - c = k * c from by rw [Nat.add_mul]; omega, ih k, List.drop_of_length_le (by rw [hc, Nat.add_mul]; omega)]
      rfl

/-- The cells of one element of a slice that is only read. -/
theorem Sl.elem {w : World} {a : Option Addr} {cap : Nat} {l : List α} (hc : ∀ x, (enc x).length = c) (h : Sl w c (.slice a l.length cap) l.length (flat enc l)) (k : Nat) (hk : k < l.length) (h0 : 0 < c) :
    ∃ g off, a = some ⟨g, off, none⟩ ∧ g < w.heap.size ∧ ∀ j, j < c → w.cell? ⟨g, off + (k * c + j), none⟩ = (enc l[k])[j]? := by
  have hlt : ∀ j, j < c → k * c + j < l.length * c := fun j hj => by
    have := Nat.mul_le_mul_right c (show k + 1 ≤ l.length from hk)
    rw [Nat.add_mul] at this; omega
  obtain ⟨g, off, rfl, hg, _⟩ := h.at (k * c + 0) (hlt 0 h0)
  refine ⟨g, off, rfl, hg, fun j hj => ?_⟩
  obtain ⟨g', off', e, _, h2⟩ := h.at (k * c + j) (hlt j hj)
  cases e
  rw [h2, flat_at enc hc l k hk j hj]
/-- Of a slice of the call's own. -/
theorem Row.elem {w : World} {v : Value} {l : List α} (hc : ∀ x, (enc x).length = c) (h : Row w c v l.length (flat enc l)) (k : Nat) (hk : k < l.length) :
    ∃ g cap, v = .slice (some ⟨g, 0, none⟩) l.length cap ∧ l.length ≤ cap ∧ cap ≤ maxLen ∧ ∀ j, j < c → w.cell? ⟨g, k * c + j, none⟩ = (enc l[k])[j]? := by
  rcases h.2 with ⟨_, e⟩ | ⟨g, cap, rfl, h1, h2, h3, h4, h5⟩
  · omega
  · refine ⟨g, cap, rfl, h1, h2, fun j hj => ?_⟩
    have hlt : k * c + j < l.length * c := by
      have := Nat.mul_le_mul_right c (show k + 1 ≤ l.length from hk)
      rw [Nat.add_mul] at this; omega
    rw [h4 _ hlt, flat_at enc hc l k hk j hj]
end
end Go.Proofs.YtddjkbpgaenpgaaGreat
end
section
namespace Go.Proofs.YtddjkbpgaenpgaaGreat
open Go.RowKit Go.Shelf

structure A3 where
  k : Nat
  q : Int
  s : List UInt8
  hk : k < 256
  hq : Z64 q
  hs : s.length ≤ 9223372036854775807
def a3c (x : A3) : List Value := [.int .u8 (x.k : Nat), .int .i64 x.q, .string (bs x.s)]
theorem a3c_len (x : A3) : (a3c x).length = 3 := rfl
def A3L (w : World) (v : Value) (l : List A3) : Prop := Sl w 3 v l.length (flat a3c l)
section
variable {w w' : World} {v : Value} {l : List A3}
theorem A3L.keepF (h : A3L w v l) (hf : Frm (fun _ => False) w w') : A3L w' v l := Sl.keepF h hf
theorem A3L.keep {X : Nat → Prop} (h : A3L w v l) (hf : Frm X w w') (hn : ∀ g, g < w.heap.size → X g → False) : A3L w' v l := Sl.keepF h (hf.mono fun k hk hx => hn k hk hx)
theorem A3L.slice (h : A3L w v l) : ∃ a cap, v = .slice a l.length cap ∧ l.length ≤ cap ∧ cap ≤ maxLen := Sl.slice h
theorem A3L.elem {a : Option Addr} {cap : Nat} (h : A3L w (.slice a l.length cap) l) (k : Nat) (hk : k < l.length) : ∃ g off, a = some ⟨g, off, none⟩ ∧ g < w.heap.size ∧ w.cell? ⟨g, off + k * 3, none⟩ = some (.int .u8 (l[k].k : Nat)) ∧ w.cell? ⟨g, off + k * 3 + 1, none⟩ = some (.int .i64 l[k].q) ∧ w.cell? ⟨g, off + k * 3 + 2, none⟩ = some (.string (bs l[k].s)) := by
  obtain ⟨g, off, rfl, h0, hc⟩ := Sl.elem a3c a3c_len h k hk (by omega)
  exact ⟨g, off, rfl, h0, hc 0 (by omega), by rw [Nat.add_assoc]; exact hc 1 (by omega), by rw [Nat.add_assoc]; exact hc 2 (by omega)⟩
end
end Go.Proofs.YtddjkbpgaenpgaaGreat
end
section
namespace Go.Proofs.YtddjkbpgaenpgaaGreat
open Go.RowKit Go.Shelf

theorem LV.act_live {L : LV} (D' : DV) (h : L.down = false) (hne : (L.acts : Int) ≠ L.cut) : L.act D' = { L.count with D := D' } := by
  unfold LV.act
  rw [h, if_neg Bool.false_ne_true, if_pos hne]
theorem LV.act_cut {L : LV} (D' : DV) (h : L.down = false) (he : (L.acts : Int) = L.cut) : L.act D' = if L.odd then ({ L.count with D := D' } : LV).fall else L.count.fall := by
  unfold LV.act
  rw [h, if_neg Bool.false_ne_true, if_neg (not_not_intro he)]
theorem LV.act_over {L : LV} (D' : DV) (h : L.down = true) : L.act D' = L := by
  unfold LV.act
  rw [if_pos h]
def LV.writeAct (L : LV) (q : Int) (s : List UInt8) : LV := L.act (L.D.writeTo q s)
theorem writeTo_n (D : DV) (q : Int) (s : List UInt8) : (D.writeTo q s).n = D.n := by
  unfold DV.writeTo
  split <;> rfl
theorem cut2 (c : Int) : ((((LV.new (DV.new 256) 1 [c]).writeAct 5 [97, 98]).writeAct 6 [99, 100]).down = true) ∧ (((LV.new (DV.new 256) 1 [c]).writeAct 5 [97, 98]).writeAct 6 [99, 100]).acts = 2 := by
  have e1 : (LV.new (DV.new 256) 1 [c]).writeAct 5 [97, 98] = ⟨(DV.new 256).writeTo 5 [97, 98], 1, [c], 1, false, fun _ => True⟩ := rfl
  rw [e1]
  unfold LV.writeAct
  rw [LV.act_cut _ rfl rfl]
  split <;> exact ⟨rfl, rfl⟩
theorem Frm.toNewX {w w1 w2 : World} {l f x : Nat} (g1 : Frm (fun _ => False) w w1) (g2 : Frm (LnX l f x) w1 w2) (h : w.heap.size ≤ l ∧ w.heap.size ≤ f ∧ w.heap.size ≤ x) : Frm (fun _ => False) w w2 := g1.next g2 fun j hj e => by unfold LnX at e; omega
end Go.Proofs.YtddjkbpgaenpgaaGreat
end
section
namespace Go.Proofs.YtddjkbpgaenpgaaGreat
namespace DV
theorem read_none {D : DV} {k : Nat} (h : D.X k = none) : D.read k = D.F k := by
  unfold read
  rw [h]
  rfl
end DV
end Go.Proofs.YtddjkbpgaenpgaaGreat
end
section
namespace Go.Proofs.YtddjkbpgaenpgaaGreat
/-- The fresh blocks, with their bytes. -/
def FLs (D : DV) : List (Nat × List UInt8) := D.fresh.map fun k => (k, (D.X k).getD [])
/-- The firm bytes of all blocks. -/
def FRs (D : DV) : List (List UInt8) := (List.range D.n).map D.F
end Go.Proofs.YtddjkbpgaenpgaaGreat
end
