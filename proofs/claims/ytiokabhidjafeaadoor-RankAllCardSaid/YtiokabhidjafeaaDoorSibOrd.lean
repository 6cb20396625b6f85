/- A set of dots that a call has made: what is in it; the siblings' dots. No condition. -/
import Derived.Test.YtiokabhidjafeaaDoorSibE
import Derived.Maps.Keyed
import Derived.Maps.Own
import Derived.Maps.OwnSet
import Derived.Maps.OwnIn
import Derived.Maps.Views
import Derived.DeepKeys4
import Derived.Test.YtiokabhidjafeaaDoorCodecX
import Derived.Test.YtiokabhidjafeaaDoorRkM
import Derived.Test.YtiokabhidjafeaaDoorSibD
import Derived.Test.YtiokabhidjafeaaDoorVecG
import Derived.Deep.RegionWith
import Derived.Deep.RegionHeld3
import Derived.Deep.QuietTactic
import Derived.BigQuiet
import Derived.IntWalk
import Derived.Deep.Cut
import Derived.Shelf.Small.Bits
import Derived.Shelf.SlSortCmp.SmallK
import Derived.Test.YtiokabhidjafeaaDoorProg
section
namespace Go.Proofs.YtiokabhidjafeaaDoor
open Go.RowKit Go.Shelf
attribute [local go_sem] Oper.semAt_some

theorem dotLaid : laidOutB Tryd.prog = true := by kernel_rfl
theorem dotKeyed : Go.Maps.Keyed Tryd.prog 61 := Go.Maps.Keyed.of_law (deep_law_laid dotLaid (m := 4) (by decide) (of_decide_eq_true (by kernel_rfl)) (by kernel_rfl) (by rw [Tryd.underlying61]))
theorem dot_lits (m : Nat) (d : DotI) : ∃ ls, Tryd.prog.keyLits (m + 1 + 1) 61 [.int .u8 d.r, .int .u32 d.n] = some ls := by
  have w1 : (Lit.int .u8 (d.r : Int)).wf = true := by
    have := d.hr
    have h1 : IntKind.u8.min = 0 := by decide
    have h2 : IntKind.u8.max = 255 := by decide
    simp [Lit.wf, h1, h2]; omega
  have w2 : (Lit.int .u32 (d.n : Int)).wf = true := by
    have := d.hn
    have h1 : IntKind.u32.min = 0 := by decide
    have h2 : IntKind.u32.max = 4294967295 := by decide
    simp [Lit.wf, h1, h2]; omega
  have c1 : Tryd.prog.cellsOf 5 = 1 := by kernel_rfl
  have c2 : Tryd.prog.cellsOf 22 = 1 := by kernel_rfl
  have c3 : Tryd.prog.cellsOf 61 = 2 := by kernel_rfl
  simp [Program.keyLits, Tryd.underlying61, Tryd.underlying5, Tryd.underlying22, c1, c2, c3, w1, w2]
theorem dot_key (d : DotI) : ∃ kl, keyOf Tryd.prog 61 (.agg (dv d.r d.n)) = some kl := by
  obtain ⟨m, hm⟩ : ∃ m, Tryd.prog.types.size = m + 1 := ⟨Tryd.prog.types.size - 1, by kernel_rfl⟩
  have hk : Tryd.prog.keyType 61 = true := by kernel_rfl
  have hf : (Value.agg (dv d.r d.n)).formed Tryd.prog 61 = true := by
    have c3 : Tryd.prog.cellsOf 61 = 2 := by kernel_rfl
    simp [Value.formed, Tryd.underlying61, c3]
  obtain ⟨ls, hl⟩ := dot_lits m d
  unfold keyOf
  rw [Tryd.underlying61]
  simp only [hk, hf, Bool.and_self, if_true, hm]
  exact ⟨_, by rw [show (Value.agg (dv d.r d.n)).cells.toList = [.int .u8 d.r, .int .u32 d.n] from rfl, hl]; rfl⟩
/-- A dot as a map's key. -/
noncomputable def keyL (d : DotI) : Lit := (dot_key d).choose
theorem keyL_eq (d : DotI) : keyOf Tryd.prog 61 (.agg (dv d.r d.n)) = some (keyL d) := (dot_key d).choose_spec
theorem keyL_inj {d d' : DotI} (h : keyL d = keyL d') : d = d' := by
  have h1 := keyL_eq d
  rw [h] at h1
  have h2 := dotKeyed.inj h1 (keyL_eq d')
  simp only [Value.agg.injEq, Array.mk.injEq, List.cons.injEq, Value.int.injEq, true_and, and_true] at h2
  exact DotI.ext' (by omega) (by omega)
/-- Block b is a set of the dots of some siblings. -/
def DM (w : World) (b : Nat) (l : List SibI) : Prop :=
  ∃ (n : Nat) (D : DataW Unit), w.ownsMap Tryd.prog 61 unitElem b n D ∧ n ≤ l.length ∧ Go.Maps.IsMap D ∧ ∀ d, Go.Maps.has D (keyL d) = decide (d ∈ l.map SibI.d)
theorem DM.start (w : World) : DM (w.alloc (.map #[] 0)) w.heap.size [] :=
  ⟨0, .map [], World.ownsMap_made w _ _ _, Nat.le_refl _, Go.Maps.isMap_empty, fun d => by simp [Go.Maps.has]⟩
theorem DM.keepB {w w' : World} {b : Nat} {l : List SibI} (h : DM w b l) (e : w'.heap[b]? = w.heap[b]?) : DM w' b l := by
  obtain ⟨n, D, ⟨es, clock, h1, h2, h3, h4⟩, h5⟩ := h
  exact ⟨n, D, ⟨es, clock, e.trans h1, h2, h3, h4⟩, h5⟩
theorem DM.lt {w : World} {b : Nat} {l : List SibI} (h : DM w b l) : b < w.heap.size := by
  obtain ⟨n, D, h1, _⟩ := h
  exact h1.lt
theorem DM.keep {X : Nat → Prop} {w w' : World} {b : Nat} {l : List SibI} (h : DM w b l) (hf : Frm X w w') (hn : ¬ X b) : DM w' b l := h.keepB (hf.block b h.lt hn)
theorem DM.put {l : List SibI} {D : DataW Unit} (x : SibI) (hm : Go.Maps.IsMap D) (h : ∀ d, Go.Maps.has D (keyL d) = decide (d ∈ l.map SibI.d)) :
    ∀ d, Go.Maps.has (D.put (keyL x.d) (.agg [])) (keyL d) = decide (d ∈ (l ++ [x]).map SibI.d) := fun d => by
  by_cases e : d = x.d
  · subst e
    rw [Go.Maps.has_put_same hm (dotKeyed.key (keyL_eq _))]
    simp
  · rw [Go.Maps.has_put_other (fun h => e (keyL_inj h)), h d]
    simp [e]

/-- What lies between two rounds of dots. -/
structure DtI (w : World) (n1 : Nat) (pre : List SibI) (W : World) : Prop where
  mv : Blk W (w.heap.size + 1 + 1) 97 #[.map (some (w.heap.size + 1))]
  set : DM W (w.heap.size + 1) pre
  frm : Frm (fun _ => False) w W
  size : n1 ≤ W.heap.size
theorem DtI.own (w : World) (n1 : Nat) (B : Nat) (hB : w.heap.size + 3 ≤ B) : OwnFrom B (DtI w n1) := fun _ _ _ _ h hg hr => by
  have hr2 := fun r e => (hr r e).2
  exact ⟨h.mv.turned hg hr2, h.set.keepB (hg.block _ h.set.lt (fun e => by have := (hr _ e.symm).1; omega)), h.frm.turned (by omega) hg hr, Nat.le_trans h.size hg.size⟩

end Go.Proofs.YtiokabhidjafeaaDoor
end
section
namespace Go.Proofs.YtiokabhidjafeaaDoor
open Go.RowKit

theorem Frm.new {w w1 w2 : World} {X Y : Nat → Prop} (h : Frm X w w1) (h' : Frm Y w1 w2) (hy : ∀ k, Y k → w.heap.size ≤ k) : Frm X w w2 := h.next h' fun k hk hY => by have := hy k hY; omega

end Go.Proofs.YtiokabhidjafeaaDoor
end
section
namespace Go.Proofs.YtiokabhidjafeaaDoor
open Go.RowKit
/-- Something that is written, or read. -/
structure Item where
  k : Nat
  n : Nat
  s : List UInt8
/-- The slice value v reads as these items. -/
def It (w : World) (v : Value) (L : List Item) : Prop :=
  ∃ a cap, v = .slice a L.length cap ∧ L.length ≤ cap ∧ cap ≤ maxLen ∧ ∀ i (h : i < L.length), ∃ b off, a = some ⟨b, off, none⟩ ∧ b < w.heap.size ∧
    w.cell? ⟨b, off + i * 3, none⟩ = some (.int .u8 L[i].k) ∧ w.cell? ⟨b, off + i * 3 + 1, none⟩ = some (.int .u32 L[i].n) ∧ w.cell? ⟨b, off + i * 3 + 2, none⟩ = some (.string (bs L[i].s)) ∧
    L[i].k < 256 ∧ L[i].n < 4294967296 ∧ L[i].s.length ≤ 9223372036854775807
theorem It.keep {X : Nat → Prop} {w w' : World} {v : Value} {L : List Item} (h : It w v L) (hf : Frm X w w') (hn : ∀ k, k < w.heap.size → ¬ X k) : It w' v L := by
  obtain ⟨a, cap, hv, h1, h2, h3⟩ := h
  refine ⟨a, cap, hv, h1, h2, fun i hi => ?_⟩
  obtain ⟨b, off, ha, hb, c0, c1, c2, r⟩ := h3 i hi
  have e := hf.block b hb (hn b hb)
  have ec : ∀ j, w'.cell? ⟨b, j, none⟩ = w.cell? ⟨b, j, none⟩ := fun j => World.cell?_of_block (a := ⟨b, j, none⟩) e
  exact ⟨b, off, ha, Nat.lt_of_lt_of_le hb hf.size, by rw [ec]; exact c0, by rw [ec]; exact c1, by rw [ec]; exact c2, r⟩

end Go.Proofs.YtiokabhidjafeaaDoor
end
section
namespace Go.Proofs.YtiokabhidjafeaaDoor
open Go.RowKit

/-- Which dot stands first. -/
def ltD (x y : SibI) : Prop := x.n < y.n ∨ x.n = y.n ∧ x.r < y.r
theorem cmpD_lt (x y : SibI) : cmpD x.r x.n y.r y.n < 0 ↔ ltD x y := by
  unfold cmpD orI cmpN ltD
  rcases Nat.lt_trichotomy x.n y.n with h | h | h
  · simp [h]
  · rcases Nat.lt_trichotomy x.r y.r with h2 | h2 | h2
    · simp [h, h2]
    · simp [h, h2]
    · have h3 : ¬ x.r < y.r := by omega
      simp [h, h2, h3]
  · have h3 : ¬ x.n < y.n := by omega
    have h4 : ¬ x.n = y.n := by omega
    simp [h, h3, h4]
end Go.Proofs.YtiokabhidjafeaaDoor
end
section
namespace Go.Proofs.YtiokabhidjafeaaDoor
open Go.RowKit

theorem ltD_trans {x y z : SibI} (h1 : ltD x y) (h2 : ltD y z) : ltD x z := by unfold ltD at *; omega
theorem ltD_ne {x y : SibI} (h : ltD x y) : x.d ≠ y.d := fun e => by
  have h1 : x.r = y.r := congrArg DotI.r e
  have h2 : x.n = y.n := congrArg DotI.n e
  unfold ltD at h
  omega
theorem goodC_ord (f : Nat → Nat) : ∀ (l : List SibI) (x : SibI), goodC f x.r x.n l = true → (∀ y ∈ l, ltD x y ∧ has8 f y.r y.n = true) ∧ l.Pairwise ltD := by
  intro l
  induction l with
  | nil => intro x _; exact ⟨fun y h => by simp at h, List.Pairwise.nil⟩
  | cons y l ih =>
    intro x h
    simp only [goodC, Bool.and_eq_true, decide_eq_true_eq] at h
    obtain ⟨⟨h1, h2⟩, h3⟩ := h
    have hxy := (cmpD_lt x y).1 h1
    obtain ⟨h4, h5⟩ := ih y h3
    refine ⟨fun z hz => ?_, List.pairwise_cons.2 ⟨fun z hz => (h4 z hz).1, h5⟩⟩
    rcases List.mem_cons.1 hz with rfl | hz
    · exact ⟨hxy, h2⟩
    · exact ⟨ltD_trans hxy (h4 z hz).1, (h4 z hz).2⟩
def zS : SibI := ⟨0, 0, [], by decide, by decide, by decide⟩
theorem okR_ord {f : Nat → Nat} {l : List SibI} (h : okR f l = true) : (∀ y ∈ l, has8 f y.r y.n = true) ∧ l.Pairwise ltD := by
  unfold okR at h
  simp only [Bool.and_eq_true] at h
  obtain ⟨h1, h2⟩ := goodC_ord f l zS h.2
  exact ⟨fun y hy => (h1 y hy).2, h2⟩
end Go.Proofs.YtiokabhidjafeaaDoor
end
