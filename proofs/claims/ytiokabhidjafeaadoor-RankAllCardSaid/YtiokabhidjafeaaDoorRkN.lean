/- The statements' own functions on registers at stage 8: which may be gone through; a register as the document's. No condition. -/
import Derived.Test.YtiokabhidjafeaaDoorRkM
import Derived.Test.YtiokabhidjafeaaDoorRkL
import Derived.Deep.MidRow
import Derived.Test.YtiokabhidjafeaaDoorLate
namespace Go.Proofs.YtiokabhidjafeaaDoor
open Go.RowKit


theorem rret_bool {a b : Bool} (h : a = b) : Ending.returned (.bool a) = .returned (.bool b) := by rw [h]
section
variable {ops : Array Oper} {Q : Exit → Act → World → Prop} {r m : Nat} {a : Act} {w W : World}
theorem wpTail.val {o : Oper} {d : Tmp} {v : Value} (hi : ops[r]? = some o) (hg : o.guard = none) (hd : o.dst = some d) (h : (execOp a.eval o).run Tryd.prog W = .ok (.value v) W) (hK : wpTail Tryd.prog ops Q (r + 1) m (a.put (some d) v) W) : wpTail Tryd.prog ops Q r (m + 1) a W := by
  refine wpTail.cons hi hg fun K hK' => ?_
  unfold Oper.wp
  rw [h]
  refine hK' _ _ ?_
  rw [hd]
  exact hK
end

/-- A slice of dots of the call's own. -/
def OwnD (w : World) (v : Value) (l : List DotI) : Prop := Row w 2 v l.length (flat dotc l)
theorem OwnD.sl {w : World} {v : Value} {l : List DotI} (h : OwnD w v l) : DL w v l := Sl.ofRow h
theorem OwnD.keep {X : Nat → Prop} {w w' : World} {v : Value} {l : List DotI} (h : OwnD w v l) (hf : Frm X w w') (hn : ∀ g, v.ownBlock = some g → ¬ X g) : OwnD w' v l := Row.keep h hf hn
theorem OwnD.nil_ (w : World) : OwnD w (.slice none 0 0) [] := Row.nil_ w 2
theorem Sl.one (w : World) (T : TypeId) (x : SibI) : SL (w.alloc (.cells #[.int .u8 x.r, .int .u32 x.n, .string (bs x.s)] T)) (.slice (some ⟨w.heap.size, 0, none⟩) 1 1) [x] :=
  Sl.built sibc sibc_len w T x #[.int .u8 x.r, .int .u32 x.n, .string (bs x.s)] rfl
/-- A register, whose siblings are of the call's own, in a block of its own. -/
structure FillT (T : TypeId) (w0 : World) (B : Nat) (f : Nat → Nat) (l : List SibI) (v : Value) (W : World) : Prop where
  blk : Blk W B T (rgc f v)
  own : OwnL W v l
  out : ∀ g, v.ownBlock = some g → w0.heap.size ≤ g ∧ g ≠ B
  frm : Frm (fun _ => False) w0 W
  lo : w0.heap.size ≤ B
theorem FillT.keep {T : TypeId} {w0 W W' : World} {B : Nat} {f : Nat → Nat} {l : List SibI} {v : Value} (h : FillT T w0 B f l v W) (g : Frm (fun _ => False) W W') : FillT T w0 B f l v W' := ⟨h.blk.keep g (fun h => h), h.own.keep g (fun _ _ h => h), h.out, h.frm.trans g, h.lo⟩
section
variable {ops : Array Oper} {Q : Exit → Act → World → Prop} {r m : Nat} {a : Act} {w W : World}
end
/-- May a register be gone through? -/
def few8 (l : List SibI) : Prop := l.length ≤ 30 ∧ ∀ i (h : i < l.length), l[i].s.length ≤ 100
set_option maxRecDepth 100000 in
set_option maxHeartbeats 1000000 in
theorem few8_yes (f : Nat → Nat) (v : Value) (l : List SibI) (w : World) (h : SL w v l) (hfew : few8 l) :
    Calls Tryd.prog 8 #[rg f v] w fun e w' => e = .returned (.bool true) ∧ Frm (fun _ => False) w w' := by
  obtain ⟨a, cap, rfl, h1, h2⟩ := h.slice
  obtain ⟨f1, f2⟩ := hfew
  have F2 := Lib.hid f2
  clear f2
  unfold maxLen at h2
  have g0 : Frm (fun _ => False) w (w.alloc (.cells (rgc f (.slice a l.length cap)) 27)) := (Frm.refl _ w).alloc _
  have b0 := Blk.alloc w 27 (rgc f (.slice a l.length cap))
  have hs := h.keepF g0
  go_enter Tryd.func8, Tryd.ntmps8
  go_upto_region 1 with fail
  generalize w.alloc (.cells (rgc f (.slice a l.length cap)) 27) = w1 at *
  generalize w.heap.size = N at *
  have c8 := b0.cell 8 rfl
  go_wp2
  go_loop [3] (fun i => ∃ k : Nat, k ≤ l.length ∧ i = .int .i64 k) (fun i => l.length - (intOf i).toNat)
  case atStart => exact ⟨0, Nat.zero_le _, rfl⟩
  case round =>
    obtain ⟨k, hk, rfl⟩ := hrel
    by_cases hlt : k < l.length
    · obtain ⟨g, off, rfl, x0, x1, x2⟩ := hs.cells k hlt
      have hq := F2.out k hlt
      have hsz : ((bs l[k].s).size : Int) ≤ 100 := by rw [bs_size]; omega
      have h110 : (k : Int) < 40 := by omega
      go_wp2
      go_round
      case rel => exact ⟨k + 1, by omega, by go_num⟩
      case measure => simp [intOf]; omega
    · obtain rfl : k = l.length := by omega
      go_wp2
      go_ret
      exact ⟨rret_bool (by simp; omega), g0⟩

set_option maxRecDepth 100000 in
set_option maxHeartbeats 1000000 in
theorem few8_no (f : Nat → Nat) (v : Value) (l : List SibI) (w : World) (h : SL w v l) (hfew : ¬ few8 l) :
    Calls Tryd.prog 8 #[rg f v] w fun e w' => e = .returned (.bool false) ∧ Frm (fun _ => False) w w' := by
  obtain ⟨a, cap, rfl, h1, h2⟩ := h.slice
  have HF := Lib.hid hfew
  clear hfew
  unfold maxLen at h2
  have g0 : Frm (fun _ => False) w (w.alloc (.cells (rgc f (.slice a l.length cap)) 27)) := (Frm.refl _ w).alloc _
  have b0 := Blk.alloc w 27 (rgc f (.slice a l.length cap))
  have hs := h.keepF g0
  go_enter Tryd.func8, Tryd.ntmps8
  go_upto_region 1 with fail
  generalize w.alloc (.cells (rgc f (.slice a l.length cap)) 27) = w1 at *
  generalize w.heap.size = N at *
  have c8 := b0.cell 8 rfl
  go_wp2
  go_loop [3] (fun i => ∃ k : Nat, k ≤ l.length ∧ k ≤ 40 ∧ i = .int .i64 k ∧ ∀ j (h : j < l.length), j < k → l[j].s.length ≤ 100) (fun i => l.length - (intOf i).toNat)
  case atStart => exact ⟨0, Nat.zero_le _, by omega, rfl, fun j _ h => absurd h (by omega)⟩
  case round =>
    obtain ⟨k, hk, hk110, rfl, hall⟩ := hrel
    have Hall := Lib.hid hall
    clear hall
    by_cases hlt : k < l.length
    · obtain ⟨g, off, rfl, x0, x1, x2⟩ := hs.cells k hlt
      by_cases h110 : k < 40
      · have h110i : (k : Int) < 40 := by omega
        by_cases hq : l[k].s.length ≤ 100
        · have hsz : ((bs l[k].s).size : Int) ≤ 100 := by rw [bs_size]; omega
          go_wp2
          go_round
          case rel =>
            refine ⟨k + 1, by omega, by omega, by go_num, fun j hj hjk => ?_⟩
            by_cases e : j = k
            · subst e; exact hq
            · exact Hall.out j hj (by omega)
          case measure => simp [intOf]; omega
        · have hsz : (100 : Int) < ((bs l[k].s).size : Int) := by rw [bs_size]; omega
          go_wp2
          go_ret
          exact ⟨rfl, g0⟩
      · have h110i : (40 : Int) ≤ (k : Int) := by omega
        have h100 : (30 : Int) < (l.length : Int) := by omega
        go_wp2
        go_ret
        exact ⟨rret_bool (by simp; omega), g0⟩
    · obtain rfl : k = l.length := by omega
      have h100 : (30 : Int) < (l.length : Int) := by
        rcases Nat.lt_or_ge 30 l.length with h | h
        · omega
        · exact absurd ⟨h, fun i hi => Hall.out i hi hi⟩ HF.out
      go_wp2
      go_ret
      exact ⟨rret_bool (by simp; omega), g0⟩


end Go.Proofs.YtiokabhidjafeaaDoor

