/- Siblings as they lie in memory; a clone of them; what All of a register gives. No condition. -/
import Derived.Test.YtiokabhidjafeaaDoorVecA
import Derived.Test.YtiokabhidjafeaaDoorRound
import Derived.Lib.AppendZeros
import Derived.RangeFuncNested
import Derived.RangeFuncBound
import Derived.RangeFuncCalls
import Derived.RangeFuncLeaves
import Derived.Shelf.Abstract
import Derived.Shelf.RegionOpen
import Derived.OwnWalkIn
import Derived.TacticsInMore
import Derived.LoopNIn
import Derived.LoopIn
import Derived.Test.YtiokabhidjafeaaDoorRow
import Derived.RangeFuncOwn
import Derived.Test.YtiokabhidjafeaaDoorRows
import Derived.WalkKit
import Derived.WalkSpells
import Derived.WalkLawsBesides
import Derived.Test.YtiokabhidjafeaaDoorFrm
import Derived.Lib.Strings
import Derived.Test.YtiokabhidjafeaaDoorConv
section
namespace Go.Proofs.YtiokabhidjafeaaDoor
open Go.RowKit Go.Shelf
attribute [local go_sem] Oper.semAt_some

/-- A sibling: its dot and its value, whose numbers have their bits, and whose value is no longer than a text may be. -/
structure SibI where
  r : Nat
  n : Nat
  s : List UInt8
  hr : r < 256
  hn : n < 4294967296
  hs : s.length ≤ 9223372036854775807
instance : Inhabited SibI := ⟨⟨0, 0, [], by decide, by decide, by decide⟩⟩
theorem SibI.ext' {x y : SibI} (h1 : x.r = y.r) (h2 : x.n = y.n) (h3 : x.s = y.s) : x = y := by
  cases x; cases y; simp only at h1 h2 h3; subst h1 h2 h3; rfl
/-- A sibling's cells. -/
def sibc (x : SibI) : List Value := [.int .u8 x.r, .int .u32 x.n, .string (bs x.s)]
theorem sibc_len (x : SibI) : (sibc x).length = 3 := rfl
theorem sibc_one (x : SibI) : ∀ u ∈ sibc x, u.oneCell' = true := fun u hu => by
  simp [sibc] at hu
  rcases hu with rfl | rfl | rfl <;> rfl
/-- A slice of siblings that is only read. -/
def SL (w : World) (v : Value) (l : List SibI) : Prop := Sl w 3 v l.length (flat sibc l)
/-- A slice of siblings of the call's own. -/
def OwnL (w : World) (v : Value) (l : List SibI) : Prop := Row w 3 v l.length (flat sibc l)
/-- A register's value. -/
abbrev rg (f : Nat → Nat) (v : Value) : Value := .agg #[.int .u32 (f 0), .int .u32 (f 1), .int .u32 (f 2), .int .u32 (f 3), .int .u32 (f 4), .int .u32 (f 5), .int .u32 (f 6), .int .u32 (f 7), v]
abbrev rgc (f : Nat → Nat) (v : Value) : Array Value := #[.int .u32 (f 0), .int .u32 (f 1), .int .u32 (f 2), .int .u32 (f 3), .int .u32 (f 4), .int .u32 (f 5), .int .u32 (f 6), .int .u32 (f 7), v]

section
variable {w w' : World} {v : Value} {l : List SibI} {X : Nat → Prop}
theorem OwnL.sl (h : OwnL w v l) : SL w v l := Sl.ofRow h
theorem OwnL.keep (h : OwnL w v l) (hf : Frm X w w') (hn : ∀ g, v.ownBlock = some g → ¬ X g) : OwnL w' v l := Row.keep h hf hn
theorem SL.keep (h : SL w v l) (hf : Frm X w w') (hn : ∀ g, blkOf v = some g → ¬ X g) : SL w' v l := Sl.keep h hf hn
theorem SL.keepF (h : SL w v l) (hf : Frm (fun _ => False) w w') : SL w' v l := Sl.keepF h hf
theorem SL.slice (h : SL w v l) : ∃ a cap, v = .slice a l.length cap ∧ l.length ≤ cap ∧ cap ≤ maxLen := Sl.slice h
theorem OwnL.blkOf (h : OwnL w v l) : ∀ g, blkOf v = some g → v.ownBlock = some g := fun g hg => by
  rcases h.2 with ⟨e, _⟩ | ⟨g', c', e, _⟩
  · subst e; cases hg
  · subst e; cases hg; rfl
theorem OwnL.nil_ (w : World) : OwnL w (.slice none 0 0) [] := Row.nil_ w 3
end
theorem Tryd.info63 : (Tryd.prog.info? 63).map (fun i => (i.zero, i.size, i.bytes)) = some (some (.agg #[.int .u8 0, .int .u32 0, .string ⟨#[]⟩]), 3, 24) := by kernel_rfl
/-- Siblings are appended. -/
theorem append_sibs (w : World) (v x : Value) (l m : List SibI) (h : OwnL w v l) (hs : SL w x m) (hb : l.length + m.length ≤ 1000000) :
    ∃ v' w', (Builtin.append_ #[25, 25] 25 #[v, x]).run Tryd.prog w = .ok v' w' ∧ OwnL w' v' (l ++ m) ∧ w.grownBy w' v.ownBlock ∧ (∀ g, v'.ownBlock = some g → v.ownBlock = some g ∨ w.heap.size ≤ g) := by
  obtain ⟨i0, hi, hz0, hz1, hz2⟩ := info_parts Tryd.info63
  obtain ⟨v', w', h1, h2, h3, h4⟩ := run_append_row w 25 25 25 63 i0 (.agg #[.int .u8 0, .int .u32 0, .string ⟨#[]⟩]) 3 24 Tryd.underlying25 hi hz0 hz1 hz2 rfl h x m.length (flat sibc m)
    (Sl.src hs Tryd.underlying25 (flat_one sibc sibc_one m)) (by unfold maxLen; omega) (by omega)
  exact ⟨v', w', h1, by unfold OwnL; rw [List.length_append, flat_append]; exact h2, h3, h4⟩
/-- A call's answer: these siblings, in new memory. -/
def NewL (l : List SibI) (w : World) (e : Ending) (w' : World) : Prop := ∃ v', e = .returned v' ∧ OwnL w' v' l ∧ Frm (fun _ => False) w w' ∧ ∀ g, v'.ownBlock = some g → w.heap.size ≤ g
theorem OwnL.empty (w : World) : OwnL (w.alloc (.cells #[] 63)) (.slice (some ⟨w.heap.size, 0, none⟩) 0 0) [] :=
  Row.made w 63 3 0 0 [] #[] rfl (Nat.le_refl _) (by decide) rfl rfl
theorem nilSib (w : World) (a : Option Addr) (n c n' c' : Nat) : (binOp .eql 25 (.slice a n c) (.slice none n' c')).run Tryd.prog w = .ok (.bool a.isNone) w := Lib.run_eql_slice_nil w _ _ a n c n' c' Tryd.underlying25

set_option maxRecDepth 100000 in
set_option maxHeartbeats 1000000 in
theorem sclone_any (v : Value) (l : List SibI) (w : World) (h : SL w v l) (hb : l.length ≤ 1000000) : Calls Tryd.prog 47 #[v] w (NewL l w) := by
  obtain ⟨a, cap, rfl, hc1, hc2⟩ := h.slice
  have hq := nilSib
  cases a with
  | none =>
    have hl : l = [] := by
      rcases Nat.eq_zero_or_pos l.length with h0 | h0
      · exact List.eq_nil_of_length_eq_zero h0
      · obtain ⟨_, _, e, _⟩ := Sl.elem sibc sibc_len h 0 h0 (by omega); cases e
    have Hl := Lib.hid hl
    clear hl
    go_enter Tryd.func47, Tryd.ntmps47
    go_wp2
    go_ret
    exact ⟨.slice none 0 0, rfl, by rw [Hl.out]; exact OwnL.nil_ _, Frm.refl _ _, fun g hg => by cases hg⟩
  | some ad =>
    have h1 := h.keepF ((Frm.refl _ w).alloc (.cells #[] 63))
    obtain ⟨v', w', hrun, hrow, hg, ho⟩ := append_sibs _ _ _ [] l (OwnL.empty w) h1 (by simp; omega)
    have Hrun := Lib.hid hrun
    clear hrun
    go_enter Tryd.func47, Tryd.ntmps47
    go_wp2_with (at_builtin; refine Lib.wpList_append_run _ rfl _ _ _ _ rfl _ _ rfl rfl _ _ Hrun.out ?_)
    go_ret
    refine ⟨v', rfl, hrow, ((Frm.refl _ w).alloc _).grown hg (fun k hk e => by have e2 : w.heap.size = k := Option.some.inj e; omega), fun g hg => ?_⟩
    rcases ho g hg with e | e
    · cases e; exact Nat.le_refl _
    · simp at e; omega

/-- All's answer: it will give these. -/
def AllTo (l : List SibI) (w : World) (e : Ending) (w' : World) : Prop :=
  ∃ B v, e = .returned (.func (.func 60) #[] #[.pointer (some ⟨B, 0, none⟩)]) ∧ w.heap.size ≤ B ∧ Blk w' B 25 #[v] ∧ SL w' v l ∧ (∀ g, blkOf v = some g → w.heap.size ≤ g ∧ g ≠ B ∧ g < w'.heap.size) ∧ Frm (fun _ => False) w w'
set_option maxRecDepth 100000 in
set_option maxHeartbeats 1000000 in
theorem sall_any (f : Nat → Nat) (v : Value) (l : List SibI) (w : World) (h : SL w v l) (hb : l.length ≤ 1000000) : Calls Tryd.prog 32 #[rg f v] w (AllTo l w) := by
  go_enter Tryd.func32, Tryd.ntmps32
  have f0 := (Frm.refl (fun _ => False) w).alloc (.cells (rgc f v) 27)
  go_wp2_with fail
  refine (sclone_any v l _ (h.keepF f0) hb).mono ?_
  rintro e w1 ⟨v', rfl, ho, f1, hn⟩
  obtain ⟨a', c', rfl, _, _⟩ := Row.slice ho
  go_wp2_with fail
  go_ret
  have hz : (w.alloc (.cells (rgc f v) 27)).heap.size = w.heap.size + 1 := by simp
  rw [hz] at hn
  have hs := f1.size
  rw [hz] at hs
  have ho2 := ho.keep ((Frm.refl _ w1).alloc (.cells #[.slice a' l.length c'] 25)) (fun _ _ h => h)
  refine ⟨w1.heap.size, _, rfl, by omega, Blk.alloc w1 _ _, ho2.sl, fun g hg => ?_, (f0.trans f1).alloc _⟩
  have hg' := ho.blkOf g hg
  have hgl := Row.blk ho g hg'
  exact ⟨by have := hn g hg'; omega, by omega, by simp; omega⟩
end Go.Proofs.YtiokabhidjafeaaDoor
end
section
namespace Go.Proofs.YtiokabhidjafeaaDoor
open Go.RowKit
theorem Blk.turned {W W' : World} {b : Nat} {t : TypeId} {cs : Array Value} {row : Option Nat} (h : Blk W b t cs) (hg : W.grownBy W' row) (hr : ∀ r, row = some r → ∃ o : Obj, W.heap[r]? = some o ∧ o.isCells = false) : Blk W' b t cs := by
  refine (hg.block b h.lt fun e => ?_).trans h
  obtain ⟨o, ho, hc⟩ := hr b e.symm
  rw [h] at ho
  cases ho
  cases hc
theorem Frm.turned {X : Nat → Prop} {w W W' : World} {B : Nat} {row : Option Nat} (h : Frm X w W) (hB : w.heap.size ≤ B) (hg : W.grownBy W' row) (hr : ∀ r, row = some r → B ≤ r ∧ ∃ o : Obj, W.heap[r]? = some o ∧ o.isCells = false) : Frm X w W' :=
  h.grown hg fun k hk e => by have := (hr k e).1; omega
theorem Frm.others {X : Nat → Prop} {w w' : World} (h : Frm X w w') (hx : ∀ k o, X k → w.heap[k]? = some o → o.isCells = true) : KeepsOthers w w' :=
  ⟨h.size, fun k o hk ho => by
    refine (h.block k (Array.getElem?_eq_some_iff.1 hk).1 fun hX => ?_).trans hk
    rw [hx k o hX hk] at ho; cases ho⟩
theorem Blk.isCells {w : World} {b : Nat} {t : TypeId} {cs : Array Value} (h : Blk w b t cs) : ∀ k o, k = b → w.heap[k]? = some o → o.isCells = true := by
  rintro k o rfl ho
  rw [h] at ho
  cases ho
  rfl
end Go.Proofs.YtiokabhidjafeaaDoor
end
section
namespace Go.Proofs.YtiokabhidjafeaaDoor
open Go.RowKit
set_option maxRecDepth 100000 in
set_option maxHeartbeats 400000 in
theorem len8 (w : World) : Calls Tryd.prog 95 #[.int .u32 255] w fun e w' => e = .returned (.int .i64 8) ∧ w = w' := by
  go_enter Tryd.func95, Tryd.ntmps95
  go_wp2_with fail
  go_ret
  exact ⟨by kernel_rfl, rfl⟩
set_option maxHeartbeats 400000 in
theorem width8 (w : World) : Calls Tryd.prog 99 #[] w fun e w' => e = .returned (.int .i64 1) ∧ w = w' := by
  go_enter Tryd.func99, Tryd.ntmps99
  go_wp2_with (go_at_call 95; refine (len8 _).mono ?_; rintro e w' ⟨rfl, rfl⟩)
  go_ret
  exact ⟨by kernel_rfl, rfl⟩
end Go.Proofs.YtiokabhidjafeaaDoor
end
section
namespace Go.Proofs.YtiokabhidjafeaaDoor
open Go.RowKit
theorem Frm.one (b i : Nat) (u : Value) (w : World) : Frm (· = b) w (w.setCell ⟨b, i, none⟩ u) := (Frm.refl (· = b) w).setCell (p := ⟨b, i, none⟩) (fun _ => rfl) u
end Go.Proofs.YtiokabhidjafeaaDoor
end
section
namespace Go.Proofs.YtiokabhidjafeaaDoor
open Go.RowKit
theorem Row.u8 {w : World} {g n cap : Nat} {s : List UInt8} (h : Row w 1 (.slice (some ⟨g, 0, none⟩) n cap) s.length (u8s s)) (k : Nat) (hk : k < s.length) : w.cell? ⟨g, k, none⟩ = some (.int .u8 s[k].toNat) := by
  rcases h.2 with ⟨hv, _⟩ | ⟨g', cap', hv, _, _, _, h4, _⟩
  · cases hv
  · cases hv
    rw [h4 k (by simpa using hk), u8s_get s k hk]
end Go.Proofs.YtiokabhidjafeaaDoor
end
section
namespace Go.Proofs.YtiokabhidjafeaaDoor
open Go.RowKit Go.Shelf
attribute [local go_sem] Oper.semAt_some

def wrong (l : List UInt8) (x : Fin l.length) : Prop := (x.val = 4 ∧ 15 < l[x.val].toNat) ∨ (0 < x.val ∧ l[x.val].toNat = 0)
/-! What is read, in plain words. -/
end Go.Proofs.YtiokabhidjafeaaDoor
end
